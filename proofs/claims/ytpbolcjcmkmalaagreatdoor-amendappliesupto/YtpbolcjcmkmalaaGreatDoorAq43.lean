import Derived.Test.YtpbolcjcmkmalaaGreatDoorAq00
import Derived.Test.YtpbolcjcmkmalaaGreatDoorAq42
import Derived.Test.YtpbolcjcmkmalaaGreatDoorAq37
set_option maxHeartbeats 20000000
set_option maxRecDepth 20000
namespace Go.Proofs.YtpbolcjcmkmalaaGreatDoor
open Go.RowKit Go.Extern.Stop Go.Stop Go.Extern
theorem OneR.chk{w w7:World}{P:Nat→Prop}{g c:Nat}{s h:ByteArray}{la ka:Option Addr}{ln lc kn kc:Nat}{v':Nat→Value}{u:It}{r:COut}(hr:r=if c=0 then .ok u else .bad c)(hb:Below w.heap.size w w7)(hg:w.heap.size≤g)(hf:#[v' 0,v' 1,v' 2,v' 3]=#[Value.string s,.string h,.slice la ln lc,.slice ka kn kc])(hl:Lies w7 (fun k=>(P k∧k<w.heap.size)∨g<k) v' u):
 OneR w P r (.returned (.tuple #[.agg #[.string s,.string h,.slice la ln lc,.slice ka kn kc],.int .i64 c])) ((((w7.setCell ⟨g,0,none⟩ (.string s)).setCell ⟨g,1,none⟩ (.string h)).setCell ⟨g,2,none⟩ (.slice la ln lc)).setCell ⟨g,3,none⟩ (.slice ka kn kc)):=by
 subst hr
 by_cases e:c=0
 ·rw[if_pos e,e];exact OneR.ok hb hg hf hl
 ·rw[if_neg e];exact OneR.bad hb hg (by omega)
theorem OneR.on{w W w7:World}{P:Nat→Prop}{r:COut}{g:Nat}{s h:ByteArray}{la ka:Option Addr}{ln lc kn kc:Nat}{code:Int}{a b c d:Value}(hr:match r with
 | .bad c=>code=c∧0<c
 | .ok u=>code=0∧∃v':Nat→Value,#[v' 0,v' 1,v' 2,v' 3]=#[Value.string s,.string h,.slice la ln lc,.slice ka kn kc]∧Lies w7 (fun k=>(P k∧k<w.heap.size)∨W.heap.size≤k) v' u)
   (hb:Below w.heap.size w w7) (hg:w.heap.size≤g) (hgW:g<W.heap.size) (_hz:w7.heap[g]?=some (.cells #[a,b,c,d] rA (0,0))):
   OneR w P r (.returned (.tuple #[.agg #[.string s,.string h,.slice la ln lc,.slice ka kn kc],.int .i64 code])) ((((w7.setCell ⟨g,0,none⟩ (.string s)).setCell ⟨g,1,none⟩ (.string h)).setCell ⟨g,2,none⟩ (.slice la ln lc)).setCell ⟨g,3,none⟩ (.slice ka kn kc)):=by
 cases r with
 |bad q=>
  obtain⟨h1,h2⟩:=hr
  subst h1
  exact OneR.bad hb hg h2
 |ok u=>
  obtain⟨h1,v',h2,h3⟩:=hr
  subst h1
  exact OneR.ok hb hg h2 (h3.step fun b _ hp=>⟨rfl,hp.imp id fun h=>by omega⟩)
theorem cN{w:World}{P:Nat→Prop}{v:Nat→Value}{x:It}(h:Lies w P v x)(s:ByteArray):Lies w P (wA (v 0) (.string s) (v 2) (v 3)) (x.setHead s):=by
 cases h with
 |mk v t la ka lc kc V h0 h1 h2 h3 hl hk hr hlc hkc=>exact .mk _ _ la ka lc kc V h0 rfl h2 h3 hl hk hr hlc hkc
theorem ML{w:World}{P:Nat→Prop}{v:Nat→Value}{x:It}(h:Lies w P v x)(s:ByteArray):Lies w P (wA (.string s) (v 1) (v 2) (v 3)) (x.setLabel s):=by
 cases h with
 |mk v t la ka lc kc V h0 h1 h2 h3 hl hk hr hlc hkc=>exact .mk _ _ la ka lc kc V rfl h1 h2 h3 hl hk hr hlc hkc
theorem ID{w:World}{P:Nat→Prop}{v:Nat→Value}{x:It}(h:Lies w P v x){a:Option Addr}{c:Nat}{L:List ByteArray}(hs:StrsP w P a L)(hc:L.length≤c):Lies w P (wA (v 0) (v 1) (.slice a L.length c) (v 3)) (x.setLines L):=by
 cases h with
 |mk v t la ka lc kc V h0 h1 h2 h3 hl hk hr hlc hkc=>exact .mk _ _ a ka c kc V h0 h1 rfl h3 hs hk hr hc hkc
theorem GD{w:World}{P:Nat→Prop}{x:It}{s h:ByteArray}{la ka:Option Addr}{ln lc kn kc:Nat}(hx:Lies w P (wA (.string s) (.string h) (.slice la ln lc) (.slice ka kn kc)) x):StrsP w P la x.lines∧x.lines.length≤lc:=by
 obtain⟨_,hl⟩:=hx.linesIn (la:=la) (n:=ln) (lc:=lc) rfl
 exact⟨hl,(hx.caps (la:=la) (ka:=ka) (n:=ln) (m:=kn) (lc:=lc) (kc:=kc) rfl rfl).1⟩
theorem VO{t:It}{o:OpW}(hk:o.kind<1)(h:UC t)(hok:OpOk o)(hit:FewIt o.item)(hsz:jA o.item≤400000){w:World}{P:Nat→Prop}{v iv:Nat→Value}(hv:Lies w P v t)(hi:Lies w P iv o.item):
 Calls Tryz.prog 20 #[.agg #[v 0,v 1,v 2,v 3],.agg (FB o iv)] w (OneR w P (refC t o)):=by
 obtain⟨f0,f1,⟨la,lc,f2⟩,ka,kc,f3⟩:=hv.forms
 obtain⟨i0,i1,⟨ja,jc,i2⟩,qa,qc,i3⟩:=hi.forms
 have HLv:=aA (hv.inn.vals f0 f1 f2 f3)
 have HLi:=aA (hi.inn.vals i0 i1 i2 i3)
 have HSz:=aA (sB h)
 have HOk:=aA hok
 have HIt:=aA (aI hit hsz)
 have HLaw:=aA h
 have HFi:Hid (∀s W,s.size≤6000→Below w.heap.size w W→Calls Tryz.prog 39 #[.agg #[.string t.label,.string t.head,.slice la t.lines.length lc,.slice ka t.kids.length kc],.string s] W fun e w'=>aG e w' (fun k=>P k∧k<w.heap.size) (eA t (cA s))∧Below W.heap.size W w'):=fun s W hs hW=>
  AB t s (by omega) (fun x hx=>by obtain⟨r,hr⟩:=hx;have:=KA (p:=r) h hr;omega) W _ (wA _ _ _ _) (HLv.out.bel hW)
 obtain⟨r,hr⟩:∃r,r=refC t o:=⟨_,rfl⟩
 have HRr:Hid (r=refC t o):=hr
 rw[←hr]
 have HK:Hid (o.kind<1):=hk
 unfold FB
 rw[f0,f1,f2,f3,i0,i1,i2,i3]
 obtain⟨W3,hW3,hb3,hs3,hx0,hx1,hx2⟩:=GC w (.cells #[.string t.label,.string t.head,.slice la t.lines.length lc,.slice ka t.kids.length kc] rA) (.cells #[.int .i64 o.kind,.string o.path,.string o.at',.string o.text,.string o.new,.int .i64 o.line,.string o.item.label,.string o.item.head,.slice ja o.item.lines.length jc,.slice qa o.item.kids.length qc] 46) (.cells #[.string ⟨#[]⟩,.string ⟨#[]⟩,.slice none 0 0,.slice none 0 0] rA)
 have HW3:=aA hW3
 have HB3:=aA (aI hb3 hs3)
 have HBx:Hid (∀W,Below W3.heap.size W3 W→(W.heap[w.heap.size]?=some (.cells #[.string t.label,.string t.head,.slice la t.lines.length lc,.slice ka t.kids.length kc] rA (0,0))∧W.heap[w.heap.size+1]?=some (.cells #[.int .i64 o.kind,.string o.path,.string o.at',.string o.text,.string o.new,.int .i64 o.line,.string o.item.label,.string o.item.head,.slice ja o.item.lines.length jc,.slice qa o.item.kids.length qc] 46 (0,0))∧W.heap[w.heap.size+2]?=some (.cells #[.string ⟨#[]⟩,.string ⟨#[]⟩,.slice none 0 0,.slice none 0 0] rA (0,0)))):=fun W hW=>
  ⟨(hW.block _ (by omega)).trans hx0,(hW.block _ (by omega)).trans hx1,(hW.block _ (by omega)).trans hx2⟩
 obtain⟨y0,y1,y2,y3,y4,y5,y6,y7,y8,y9⟩:=yB hx1
 obtain⟨l0,l1,l2,l3,_⟩:=gA hx0
 clear f0 f1 f2 f3 i0 i1 i2 i3 hv hi h hok hit hsz hr hW3 hb3 hs3 hx0 hx1 hx2
 go_enter Tryz.func20,Tryz.ntmps20
 go_upto_region 1 with fail
 rw[←HW3.out]
 go_wp2_with fail
 refine(HFi.out o.path W3 HOk.out.path HB3.out.1).mono ?_
 rintro e w4 ⟨hfo,hb4⟩
 have HB4:=aA hb4
 clear y0 y1 y2 y3 y4 y5 y6 y7 y8 y9 l0 l1 l2 l3 hb4
 cases hx:eA t (cA o.path) with
 |none=>
  rw[hx] at hfo
  have hfo:e=_:=hfo
  subst hfo
  have HR5:Hid (r=.bad 9):=by
   show _=_
   rw[HRr.out]
   unfold refC
   rw[if_pos (by have:=HK.out;omega)]
  clear hx
  obtain⟨W5,hW5⟩:∃W5,W5=w4.alloc (.cells #[.string ⟨#[]⟩,.string ⟨#[]⟩,.slice none 0 0,.slice none 0 0] rA):=⟨_,rfl⟩
  have HW5:=aA hW5
  have HB5:Hid (Below W3.heap.size W3 W5):=by show Below _ _ _;rw[hW5];exact HB4.out.alloc HB4.out.size _
  clear hW5
  go_upto_region 2 with fail
  rw[←HW5.out]
  obtain⟨hx0,hx1,hx2⟩:=HBx.out W5 HB5.out
  obtain⟨y0,y1,y2,y3,y4,y5,y6,y7,y8,y9⟩:=yB hx1
  obtain⟨l0,l1,l2,l3,_⟩:=gA hx0
  obtain⟨z0,z1,z2,z3,zf⟩:=gA hx2
  have HZ:=aA hx2
  clear hx0 hx1 hx2
  go_wp2
  refine bodyPost_ret (v:=.tuple #[.agg #[.string t.label,.string t.head,.slice la t.lines.length lc,.slice ka t.kids.length kc],.int .i64 9]) (fA Tryz.results20 _ _ (w.heap.size+2) rA #[.string t.label,.string t.head,.slice la t.lines.length lc,.slice ka t.kids.length kc] (0,0) _ _ rfl rfl (NA HZ.out) Tryz.underlying25 rfl rfl) rfl ?_
  rw[HR5.out]
  exact OneR.bad (HB3.out.1.trans (HB5.out.mono HB3.out.1.size)) (by omega) (by omega)
 |some x=>
  rw[hx] at hfo
  obtain⟨vx,rfl,hlx⟩:=hfo
  obtain⟨j0,j1,⟨ma,mc,j2⟩,na,nc,j3⟩:=hlx.forms
  have HLx:=aA (hlx.vals j0 j1 j2 j3)
  have HX:=aA hx
  rw[j0,j1,j2,j3]
  clear hx hlx j0 j1 j2 j3
  obtain⟨W5,hW5⟩:∃W5,W5=w4.alloc (.cells #[.string x.label,.string x.head,.slice ma x.lines.length mc,.slice na x.kids.length nc] rA):=⟨_,rfl⟩
  have HW5:=aA hW5
  have hb45:Below w4.heap.size w4 W5:=by rw[hW5];exact bA _ _
  have HB5:=aA (HB4.out.trans (hb45.mono HB4.out.size))
  have hy5:W5.heap[w4.heap.size]?=some (.cells #[.string x.label,.string x.head,.slice ma x.lines.length mc,.slice na x.kids.length nc] rA (0,0)):=by rw[hW5];exact heap_alloc_new _ _
  have hs5:W5.heap.size=w4.heap.size+1:=by rw[hW5];simp
  have h34:=HB4.out.size
  have h3s:=HB3.out.2
  have HT5:=aA (aI hb45 (aI hy5 (show w.heap.size+3≤w4.heap.size∧W5.heap.size=w4.heap.size+1 from⟨by omega,hs5⟩)))
  clear hW5 hb45 hs5 h34 h3s
  go_upto_region 2 with fail
  rw[←HW5.out]
  obtain⟨hx0,hx1,hx2⟩:=HBx.out W5 HB5.out
  obtain⟨y0,y1,y2,y3,y4,y5,y6,y7,y8,y9⟩:=yB hx1
  obtain⟨l0,l1,l2,l3,_⟩:=gA hx0
  obtain⟨z0,z1,z2,z3,zf⟩:=gA hx2
  obtain⟨e0,e1,e2,e3,ef⟩:=gA hy5
  have HZ:=aA hx2
  clear hx0 hx1 hx2 hy5
  have HR9:Hid (r=.bad 9):=by
   show _=_
   rw[HRr.out]
   unfold refC
   rw[if_pos (by have:=HK.out;omega)]
  go_wp2
  refine bodyPost_ret (v:=.tuple #[.agg #[.string t.label,.string t.head,.slice la t.lines.length lc,.slice ka t.kids.length kc],.int .i64 9]) (fA Tryz.results20 _ _ (w.heap.size+2) rA #[.string t.label,.string t.head,.slice la t.lines.length lc,.slice ka t.kids.length kc] (0,0) _ _ rfl rfl (NA HZ.out) Tryz.underlying25 rfl rfl) rfl ?_
  rw[HR9.out]
  exact OneR.bad (HB3.out.1.trans (HB5.out.mono HB3.out.1.size)) (by omega) (by omega)
theorem WO{t:It}{o:OpW}(hk:9<o.kind)(h:UC t)(hok:OpOk o)(hit:FewIt o.item)(hsz:jA o.item≤400000){w:World}{P:Nat→Prop}{v iv:Nat→Value}(hv:Lies w P v t)(hi:Lies w P iv o.item):
 Calls Tryz.prog 20 #[.agg #[v 0,v 1,v 2,v 3],.agg (FB o iv)] w (OneR w P (refC t o)):=by
 obtain⟨f0,f1,⟨la,lc,f2⟩,ka,kc,f3⟩:=hv.forms
 obtain⟨i0,i1,⟨ja,jc,i2⟩,qa,qc,i3⟩:=hi.forms
 have HLv:=aA (hv.inn.vals f0 f1 f2 f3)
 have HLi:=aA (hi.inn.vals i0 i1 i2 i3)
 have HSz:=aA (sB h)
 have HOk:=aA hok
 have HIt:=aA (aI hit hsz)
 have HLaw:=aA h
 have HFi:Hid (∀s W,s.size≤6000→Below w.heap.size w W→Calls Tryz.prog 39 #[.agg #[.string t.label,.string t.head,.slice la t.lines.length lc,.slice ka t.kids.length kc],.string s] W fun e w'=>aG e w' (fun k=>P k∧k<w.heap.size) (eA t (cA s))∧Below W.heap.size W w'):=fun s W hs hW=>
  AB t s (by omega) (fun x hx=>by obtain⟨r,hr⟩:=hx;have:=KA (p:=r) h hr;omega) W _ (wA _ _ _ _) (HLv.out.bel hW)
 obtain⟨r,hr⟩:∃r,r=refC t o:=⟨_,rfl⟩
 have HRr:Hid (r=refC t o):=hr
 rw[←hr]
 have HK:Hid (9<o.kind):=hk
 unfold FB
 rw[f0,f1,f2,f3,i0,i1,i2,i3]
 obtain⟨W3,hW3,hb3,hs3,hx0,hx1,hx2⟩:=GC w (.cells #[.string t.label,.string t.head,.slice la t.lines.length lc,.slice ka t.kids.length kc] rA) (.cells #[.int .i64 o.kind,.string o.path,.string o.at',.string o.text,.string o.new,.int .i64 o.line,.string o.item.label,.string o.item.head,.slice ja o.item.lines.length jc,.slice qa o.item.kids.length qc] 46) (.cells #[.string ⟨#[]⟩,.string ⟨#[]⟩,.slice none 0 0,.slice none 0 0] rA)
 have HW3:=aA hW3
 have HB3:=aA (aI hb3 hs3)
 have HBx:Hid (∀W,Below W3.heap.size W3 W→(W.heap[w.heap.size]?=some (.cells #[.string t.label,.string t.head,.slice la t.lines.length lc,.slice ka t.kids.length kc] rA (0,0))∧W.heap[w.heap.size+1]?=some (.cells #[.int .i64 o.kind,.string o.path,.string o.at',.string o.text,.string o.new,.int .i64 o.line,.string o.item.label,.string o.item.head,.slice ja o.item.lines.length jc,.slice qa o.item.kids.length qc] 46 (0,0))∧W.heap[w.heap.size+2]?=some (.cells #[.string ⟨#[]⟩,.string ⟨#[]⟩,.slice none 0 0,.slice none 0 0] rA (0,0)))):=fun W hW=>
  ⟨(hW.block _ (by omega)).trans hx0,(hW.block _ (by omega)).trans hx1,(hW.block _ (by omega)).trans hx2⟩
 obtain⟨y0,y1,y2,y3,y4,y5,y6,y7,y8,y9⟩:=yB hx1
 obtain⟨l0,l1,l2,l3,_⟩:=gA hx0
 clear f0 f1 f2 f3 i0 i1 i2 i3 hv hi h hok hit hsz hr hW3 hb3 hs3 hx0 hx1 hx2
 go_enter Tryz.func20,Tryz.ntmps20
 go_upto_region 1 with fail
 rw[←HW3.out]
 go_wp2_with fail
 refine(HFi.out o.path W3 HOk.out.path HB3.out.1).mono ?_
 rintro e w4 ⟨hfo,hb4⟩
 have HB4:=aA hb4
 clear y0 y1 y2 y3 y4 y5 y6 y7 y8 y9 l0 l1 l2 l3 hb4
 cases hx:eA t (cA o.path) with
 |none=>
  rw[hx] at hfo
  have hfo:e=_:=hfo
  subst hfo
  have HR5:Hid (r=.bad 9):=by
   show _=_
   rw[HRr.out]
   unfold refC
   rw[if_pos (by have:=HK.out;omega)]
  clear hx
  obtain⟨W5,hW5⟩:∃W5,W5=w4.alloc (.cells #[.string ⟨#[]⟩,.string ⟨#[]⟩,.slice none 0 0,.slice none 0 0] rA):=⟨_,rfl⟩
  have HW5:=aA hW5
  have HB5:Hid (Below W3.heap.size W3 W5):=by show Below _ _ _;rw[hW5];exact HB4.out.alloc HB4.out.size _
  clear hW5
  go_upto_region 2 with fail
  rw[←HW5.out]
  obtain⟨hx0,hx1,hx2⟩:=HBx.out W5 HB5.out
  obtain⟨y0,y1,y2,y3,y4,y5,y6,y7,y8,y9⟩:=yB hx1
  obtain⟨l0,l1,l2,l3,_⟩:=gA hx0
  obtain⟨z0,z1,z2,z3,zf⟩:=gA hx2
  have HZ:=aA hx2
  clear hx0 hx1 hx2
  go_wp2
  refine bodyPost_ret (v:=.tuple #[.agg #[.string t.label,.string t.head,.slice la t.lines.length lc,.slice ka t.kids.length kc],.int .i64 9]) (fA Tryz.results20 _ _ (w.heap.size+2) rA #[.string t.label,.string t.head,.slice la t.lines.length lc,.slice ka t.kids.length kc] (0,0) _ _ rfl rfl (NA HZ.out) Tryz.underlying25 rfl rfl) rfl ?_
  rw[HR5.out]
  exact OneR.bad (HB3.out.1.trans (HB5.out.mono HB3.out.1.size)) (by omega) (by omega)
 |some x=>
  rw[hx] at hfo
  obtain⟨vx,rfl,hlx⟩:=hfo
  obtain⟨j0,j1,⟨ma,mc,j2⟩,na,nc,j3⟩:=hlx.forms
  have HLx:=aA (hlx.vals j0 j1 j2 j3)
  have HX:=aA hx
  rw[j0,j1,j2,j3]
  clear hx hlx j0 j1 j2 j3
  obtain⟨W5,hW5⟩:∃W5,W5=w4.alloc (.cells #[.string x.label,.string x.head,.slice ma x.lines.length mc,.slice na x.kids.length nc] rA):=⟨_,rfl⟩
  have HW5:=aA hW5
  have hb45:Below w4.heap.size w4 W5:=by rw[hW5];exact bA _ _
  have HB5:=aA (HB4.out.trans (hb45.mono HB4.out.size))
  have hy5:W5.heap[w4.heap.size]?=some (.cells #[.string x.label,.string x.head,.slice ma x.lines.length mc,.slice na x.kids.length nc] rA (0,0)):=by rw[hW5];exact heap_alloc_new _ _
  have hs5:W5.heap.size=w4.heap.size+1:=by rw[hW5];simp
  have h34:=HB4.out.size
  have h3s:=HB3.out.2
  have HT5:=aA (aI hb45 (aI hy5 (show w.heap.size+3≤w4.heap.size∧W5.heap.size=w4.heap.size+1 from⟨by omega,hs5⟩)))
  clear hW5 hb45 hs5 h34 h3s
  go_upto_region 2 with fail
  rw[←HW5.out]
  obtain⟨hx0,hx1,hx2⟩:=HBx.out W5 HB5.out
  obtain⟨y0,y1,y2,y3,y4,y5,y6,y7,y8,y9⟩:=yB hx1
  obtain⟨l0,l1,l2,l3,_⟩:=gA hx0
  obtain⟨z0,z1,z2,z3,zf⟩:=gA hx2
  obtain⟨e0,e1,e2,e3,ef⟩:=gA hy5
  have HZ:=aA hx2
  clear hx0 hx1 hx2 hy5
  have HR9:Hid (r=.bad 9):=by
   show _=_
   rw[HRr.out]
   unfold refC
   rw[if_pos (by have:=HK.out;omega)]
  go_wp2
  refine bodyPost_ret (v:=.tuple #[.agg #[.string t.label,.string t.head,.slice la t.lines.length lc,.slice ka t.kids.length kc],.int .i64 9]) (fA Tryz.results20 _ _ (w.heap.size+2) rA #[.string t.label,.string t.head,.slice la t.lines.length lc,.slice ka t.kids.length kc] (0,0) _ _ rfl rfl (NA HZ.out) Tryz.underlying25 rfl rfl) rfl ?_
  rw[HR9.out]
  exact OneR.bad (HB3.out.1.trans (HB5.out.mono HB3.out.1.size)) (by omega) (by omega)
theorem jS{t:It}{o:OpW}(hk:o.kind=1)(h:UC t)(hok:OpOk o)(hit:FewIt o.item)(hsz:jA o.item≤400000){w:World}{P:Nat→Prop}{v iv:Nat→Value}(hv:Lies w P v t)(hi:Lies w P iv o.item):
 Calls Tryz.prog 20 #[.agg #[v 0,v 1,v 2,v 3],.agg (FB o iv)] w (OneR w P (refC t o)):=by
 obtain⟨f0,f1,⟨la,lc,f2⟩,ka,kc,f3⟩:=hv.forms
 obtain⟨i0,i1,⟨ja,jc,i2⟩,qa,qc,i3⟩:=hi.forms
 have HLv:=aA (hv.inn.vals f0 f1 f2 f3)
 have HLi:=aA (hi.inn.vals i0 i1 i2 i3)
 have HSz:=aA (sB h)
 have HOk:=aA hok
 have HIt:=aA (aI hit hsz)
 have HLaw:=aA h
 have HFi:Hid (∀s W,s.size≤6000→Below w.heap.size w W→Calls Tryz.prog 39 #[.agg #[.string t.label,.string t.head,.slice la t.lines.length lc,.slice ka t.kids.length kc],.string s] W fun e w'=>aG e w' (fun k=>P k∧k<w.heap.size) (eA t (cA s))∧Below W.heap.size W w'):=fun s W hs hW=>
  AB t s (by omega) (fun x hx=>by obtain⟨r,hr⟩:=hx;have:=KA (p:=r) h hr;omega) W _ (wA _ _ _ _) (HLv.out.bel hW)
 obtain⟨r,hr⟩:∃r,r=refC t o:=⟨_,rfl⟩
 have HRr:Hid (r=refC t o):=hr
 rw[←hr]
 have HK:Hid (o.kind=1):=hk
 unfold FB
 rw[f0,f1,f2,f3,i0,i1,i2,i3]
 rw[hk]
 obtain⟨W3,hW3,hb3,hs3,hx0,hx1,hx2⟩:=GC w (.cells #[.string t.label,.string t.head,.slice la t.lines.length lc,.slice ka t.kids.length kc] rA) (.cells #[.int .i64 1,.string o.path,.string o.at',.string o.text,.string o.new,.int .i64 o.line,.string o.item.label,.string o.item.head,.slice ja o.item.lines.length jc,.slice qa o.item.kids.length qc] 46) (.cells #[.string ⟨#[]⟩,.string ⟨#[]⟩,.slice none 0 0,.slice none 0 0] rA)
 have HW3:=aA hW3
 have HB3:=aA (aI hb3 hs3)
 have HBx:Hid (∀W,Below W3.heap.size W3 W→(W.heap[w.heap.size]?=some (.cells #[.string t.label,.string t.head,.slice la t.lines.length lc,.slice ka t.kids.length kc] rA (0,0))∧W.heap[w.heap.size+1]?=some (.cells #[.int .i64 1,.string o.path,.string o.at',.string o.text,.string o.new,.int .i64 o.line,.string o.item.label,.string o.item.head,.slice ja o.item.lines.length jc,.slice qa o.item.kids.length qc] 46 (0,0))∧W.heap[w.heap.size+2]?=some (.cells #[.string ⟨#[]⟩,.string ⟨#[]⟩,.slice none 0 0,.slice none 0 0] rA (0,0)))):=fun W hW=>
  ⟨(hW.block _ (by omega)).trans hx0,(hW.block _ (by omega)).trans hx1,(hW.block _ (by omega)).trans hx2⟩
 obtain⟨y0,y1,y2,y3,y4,y5,y6,y7,y8,y9⟩:=yB hx1
 obtain⟨l0,l1,l2,l3,_⟩:=gA hx0
 clear f0 f1 f2 f3 i0 i1 i2 i3 hv hi h hok hit hsz hr hW3 hb3 hs3 hx0 hx1 hx2 hk
 go_enter Tryz.func20,Tryz.ntmps20
 go_upto_region 1 with fail
 rw[←HW3.out]
 go_wp2_with fail
 refine(HFi.out o.path W3 HOk.out.path HB3.out.1).mono ?_
 rintro e w4 ⟨hfo,hb4⟩
 have HB4:=aA hb4
 clear y0 y1 y2 y3 y4 y5 y6 y7 y8 y9 l0 l1 l2 l3 hb4
 cases hx:eA t (cA o.path) with
 |none=>
  rw[hx] at hfo
  have hfo:e=_:=hfo
  subst hfo
  have HR5:Hid (r=.bad 5):=by
   show _=_
   rw[HRr.out]
   unfold refC
   rw[if_neg (by have:=HK.out;omega),hx]
  clear hx
  obtain⟨W5,hW5⟩:∃W5,W5=w4.alloc (.cells #[.string ⟨#[]⟩,.string ⟨#[]⟩,.slice none 0 0,.slice none 0 0] rA):=⟨_,rfl⟩
  have HW5:=aA hW5
  have HB5:Hid (Below W3.heap.size W3 W5):=by show Below _ _ _;rw[hW5];exact HB4.out.alloc HB4.out.size _
  clear hW5
  go_upto_region 2 with fail
  rw[←HW5.out]
  obtain⟨hx0,hx1,hx2⟩:=HBx.out W5 HB5.out
  obtain⟨y0,y1,y2,y3,y4,y5,y6,y7,y8,y9⟩:=yB hx1
  obtain⟨l0,l1,l2,l3,_⟩:=gA hx0
  obtain⟨z0,z1,z2,z3,zf⟩:=gA hx2
  have HZ:=aA hx2
  clear hx0 hx1 hx2
  go_wp2
  refine bodyPost_ret (v:=.tuple #[.agg #[.string t.label,.string t.head,.slice la t.lines.length lc,.slice ka t.kids.length kc],.int .i64 5]) (fA Tryz.results20 _ _ (w.heap.size+2) rA #[.string t.label,.string t.head,.slice la t.lines.length lc,.slice ka t.kids.length kc] (0,0) _ _ rfl rfl (NA HZ.out) Tryz.underlying25 rfl rfl) rfl ?_
  rw[HR5.out]
  exact OneR.bad (HB3.out.1.trans (HB5.out.mono HB3.out.1.size)) (by omega) (by omega)
 |some x=>
  rw[hx] at hfo
  obtain⟨vx,rfl,hlx⟩:=hfo
  obtain⟨j0,j1,⟨ma,mc,j2⟩,na,nc,j3⟩:=hlx.forms
  have HLx:=aA (hlx.vals j0 j1 j2 j3)
  have HX:=aA hx
  rw[j0,j1,j2,j3]
  clear hx hlx j0 j1 j2 j3
  obtain⟨W5,hW5⟩:∃W5,W5=w4.alloc (.cells #[.string x.label,.string x.head,.slice ma x.lines.length mc,.slice na x.kids.length nc] rA):=⟨_,rfl⟩
  have HW5:=aA hW5
  have hb45:Below w4.heap.size w4 W5:=by rw[hW5];exact bA _ _
  have HB5:=aA (HB4.out.trans (hb45.mono HB4.out.size))
  have hy5:W5.heap[w4.heap.size]?=some (.cells #[.string x.label,.string x.head,.slice ma x.lines.length mc,.slice na x.kids.length nc] rA (0,0)):=by rw[hW5];exact heap_alloc_new _ _
  have hs5:W5.heap.size=w4.heap.size+1:=by rw[hW5];simp
  have h34:=HB4.out.size
  have h3s:=HB3.out.2
  have HT5:=aA (aI hb45 (aI hy5 (show w.heap.size+3≤w4.heap.size∧W5.heap.size=w4.heap.size+1 from⟨by omega,hs5⟩)))
  clear hW5 hb45 hs5 h34 h3s
  go_upto_region 2 with fail
  rw[←HW5.out]
  obtain⟨hx0,hx1,hx2⟩:=HBx.out W5 HB5.out
  obtain⟨y0,y1,y2,y3,y4,y5,y6,y7,y8,y9⟩:=yB hx1
  obtain⟨l0,l1,l2,l3,_⟩:=gA hx0
  obtain⟨z0,z1,z2,z3,zf⟩:=gA hx2
  obtain⟨e0,e1,e2,e3,ef⟩:=gA hy5
  have HZ:=aA hx2
  clear hx0 hx1 hx2 hy5
  have HRx:Hid (r=if chkB o.text=0 then .ok (JA o.path (x.setHead o.text) t) else .bad (chkB o.text)):=by
   show _=_
   rw[HRr.out]
   unfold refC
   rw[if_neg (by have:=HK.out;omega),HX.out]
   show (if o.kind≤5 then (match textC x o with| .bad c=>COut.bad c| .ok y=>.ok (JA o.path y t))
    else if o.kind=6 then refPut t o x
    else if o.path.size=0 then .bad 5
    else if o.kind=7 then .ok (refGone t o)
    else if o.kind=8 then refLab t o x
    else refMove t o x)=_
   rw[if_pos (by have:=HK.out;omega)]
   unfold textC
   rw[if_neg (by have:=HK.out;omega),if_neg (by have:=HK.out;omega),if_neg (by have:=HK.out;omega),if_neg (by have:=HK.out;omega)]
   by_cases hc:chkB o.text=0
   ·rw[if_pos hc,if_pos hc]
   ·rw[if_neg hc,if_neg hc]
  have HLE:=aA (fun W=>GB o.text (by have:=HOk.out.text;omega) W)
  rw[←wL] at HLE
  obtain⟨ck,hck⟩:∃ck,ck=chkB o.text:=⟨_,rfl⟩
  rw[←hck] at HLE HRx
  clear hck
  go_wp2_with fail
  refine(HLE.out W5).mono ?_
  rintro e w6 ⟨rfl,h9⟩
  subst w6
  obtain⟨W7,hW7⟩:∃W7,W7=W5.setCell ⟨w4.heap.size,1,none⟩ (.string o.text):=⟨_,rfl⟩
  have hy7:W7.heap[w4.heap.size]?=some (.cells #[.string x.label,.string o.text,.slice ma x.lines.length mc,.slice na x.kids.length nc] rA (0,0)):=by rw[hW7,heap_setCell_same _ _ _ _ _ _ HT5.out.2.1];rfl
  have hf7:∀q,q≠w4.heap.size→W7.heap[q]?=W5.heap[q]?:=fun q hq=>by rw[hW7];exact Below.heap_setCell _ _ _ _ hq
  have hs7:W7.heap.size=W5.heap.size:=by rw[hW7];simp
  have hsz5:=HT5.out.2.2
  have hbw5:Below w.heap.size w W5:=HB3.out.1.trans (HB5.out.mono HB3.out.1.size)
  have hbw7:Below w.heap.size w W7:=by rw[hW7];exact hbw5.setCell (by show w.heap.size≤w4.heap.size;omega) _
  have hlt7:Lies W7 (fun q=>P q∧q<w.heap.size) (wA (.string t.label) (.string t.head) (.slice la t.lines.length lc) (.slice ka t.kids.length kc)) t:=HLv.out.step fun b hb hp=>⟨hbw7.block b hb,hp⟩
  have hlx7:Lies W7 (fun q=>P q∧q<w.heap.size) (wA (.string x.label) (.string o.text) (.slice ma x.lines.length mc) (.slice na x.kids.length nc)) (x.setHead o.text):=(cN HLx.out o.text).step fun b hb hp=>⟨(hf7 b (by have:=hp.2;omega)).trans (HT5.out.1.block b hb),hp⟩
  have hwt:=EC _ o.path (by have:=HOk.out.path;omega) t (x.setHead o.text) _ _ W7 hlt7 hlx7 (by have:=HSz.out;omega)
  obtain⟨hx0,hx1,hx2⟩:=HBx.out W5 HB5.out
  have hr7:W7.heap[w.heap.size]?=some (.cells #[.string t.label,.string t.head,.slice la t.lines.length lc,.slice ka t.kids.length kc] rA (0,0))∧W7.heap[w.heap.size+1]?=some (.cells #[.int .i64 1,.string o.path,.string o.at',.string o.text,.string o.new,.int .i64 o.line,.string o.item.label,.string o.item.head,.slice ja o.item.lines.length jc,.slice qa o.item.kids.length qc] 46 (0,0))∧W7.heap[w.heap.size+2]?=some (.cells #[.string ⟨#[]⟩,.string ⟨#[]⟩,.slice none 0 0,.slice none 0 0] rA (0,0)):=⟨(hf7 _ (by omega)).trans hx0,(hf7 _ (by omega)).trans hx1,(hf7 _ (by omega)).trans hx2⟩
  have HWt:=aA hwt
  have HW7:=aA hW7
  have HR7:=aA (aI hr7 (aI hy7 (aI hbw7 hs7)))
  clear hsz5 hbw5 hbw7 hlt7 hlx7 hwt hx0 hx1 hx2 hr7 hW7 hy7 hf7 hs7
  go_upto_region 10 with fail
  rw[←HW7.out]
  clear y0 y1 y2 y3 y4 y5 y6 y7 y8 y9 l0 l1 l2 l3 z0 z1 z2 z3 zf e0 e1 e2 e3 ef
  obtain⟨y0,y1,y2,y3,y4,y5,y6,y7,y8,y9⟩:=yB HR7.out.1.2.1
  obtain⟨l0,l1,l2,l3,_⟩:=gA HR7.out.1.1
  obtain⟨e0,e1,e2,e3,_⟩:=gA HR7.out.2.1
  go_wp2_with fail
  refine HWt.out.mono ?_
  rintro e w8 ⟨⟨v8,rfl,hl8⟩,hb8⟩
  obtain⟨k0,k1,⟨oa,oc,k2⟩,pa,pc,k3⟩:=hl8.forms
  have HL8:=aA (hl8.vals k0 k1 k2 k3)
  rw[k0,k1,k2,k3]
  obtain⟨U,hU⟩:∃U,U=JA o.path (x.setHead o.text) t:=⟨_,rfl⟩
  rw[←hU] at HL8 HRx ⊢
  have hz8:=(hb8.block (w.heap.size+2) (Array.getElem?_eq_some_iff.1 HR7.out.1.2.2).1).trans HR7.out.1.2.2
  obtain⟨z0,z1,z2,z3,zf⟩:=gA hz8
  have HZ8:=aA hz8
  have HB8:=aA (aI (HR7.out.2.2.1.trans (hb8.mono HR7.out.2.2.1.size)) (show w.heap.size+2<W7.heap.size from(Array.getElem?_eq_some_iff.1 HR7.out.1.2.2).1))
  clear y0 y1 y2 y3 y4 y5 y6 y7 y8 y9 l0 l1 l2 l3 e0 e1 e2 e3 hl8 k0 k1 k2 k3 hU hz8 hb8 HWt
  go_wp2
  refine bodyPost_ret (v:=.tuple #[.agg #[.string U.label,.string U.head,.slice oa U.lines.length oc,.slice pa U.kids.length pc],.int .i64 (ck:Nat)]) (fA Tryz.results20 _ _ (w.heap.size+2) rA #[.string U.label,.string U.head,.slice oa U.lines.length oc,.slice pa U.kids.length pc] (0,0) _ _ rfl rfl (NA HZ8.out) Tryz.underlying25 rfl rfl) rfl ?_
  exact OneR.chk HRx.out (v':=wA (.string U.label) (.string U.head) (.slice oa U.lines.length oc) (.slice pa U.kids.length pc)) HB8.out.1 (by omega) rfl (HL8.out.step fun b hb hp=>⟨rfl,hp.imp id fun h=>by have:=HB8.out.2;omega⟩)
theorem kS{t:It}{o:OpW}(hk:o.kind=2)(h:UC t)(hok:OpOk o)(hit:FewIt o.item)(hsz:jA o.item≤400000){w:World}{P:Nat→Prop}{v iv:Nat→Value}(hv:Lies w P v t)(hi:Lies w P iv o.item):
 Calls Tryz.prog 20 #[.agg #[v 0,v 1,v 2,v 3],.agg (FB o iv)] w (OneR w P (refC t o)):=by
 obtain⟨f0,f1,⟨la,lc,f2⟩,ka,kc,f3⟩:=hv.forms
 obtain⟨i0,i1,⟨ja,jc,i2⟩,qa,qc,i3⟩:=hi.forms
 have HLv:=aA (hv.inn.vals f0 f1 f2 f3)
 have HLi:=aA (hi.inn.vals i0 i1 i2 i3)
 have HSz:=aA (sB h)
 have HOk:=aA hok
 have HIt:=aA (aI hit hsz)
 have HLaw:=aA h
 have HFi:Hid (∀s W,s.size≤6000→Below w.heap.size w W→Calls Tryz.prog 39 #[.agg #[.string t.label,.string t.head,.slice la t.lines.length lc,.slice ka t.kids.length kc],.string s] W fun e w'=>aG e w' (fun k=>P k∧k<w.heap.size) (eA t (cA s))∧Below W.heap.size W w'):=fun s W hs hW=>
  AB t s (by omega) (fun x hx=>by obtain⟨r,hr⟩:=hx;have:=KA (p:=r) h hr;omega) W _ (wA _ _ _ _) (HLv.out.bel hW)
 obtain⟨r,hr⟩:∃r,r=refC t o:=⟨_,rfl⟩
 have HRr:Hid (r=refC t o):=hr
 rw[←hr]
 have HK:Hid (o.kind=2):=hk
 unfold FB
 rw[f0,f1,f2,f3,i0,i1,i2,i3]
 rw[hk]
 obtain⟨W3,hW3,hb3,hs3,hx0,hx1,hx2⟩:=GC w (.cells #[.string t.label,.string t.head,.slice la t.lines.length lc,.slice ka t.kids.length kc] rA) (.cells #[.int .i64 2,.string o.path,.string o.at',.string o.text,.string o.new,.int .i64 o.line,.string o.item.label,.string o.item.head,.slice ja o.item.lines.length jc,.slice qa o.item.kids.length qc] 46) (.cells #[.string ⟨#[]⟩,.string ⟨#[]⟩,.slice none 0 0,.slice none 0 0] rA)
 have HW3:=aA hW3
 have HB3:=aA (aI hb3 hs3)
 have HBx:Hid (∀W,Below W3.heap.size W3 W→(W.heap[w.heap.size]?=some (.cells #[.string t.label,.string t.head,.slice la t.lines.length lc,.slice ka t.kids.length kc] rA (0,0))∧W.heap[w.heap.size+1]?=some (.cells #[.int .i64 2,.string o.path,.string o.at',.string o.text,.string o.new,.int .i64 o.line,.string o.item.label,.string o.item.head,.slice ja o.item.lines.length jc,.slice qa o.item.kids.length qc] 46 (0,0))∧W.heap[w.heap.size+2]?=some (.cells #[.string ⟨#[]⟩,.string ⟨#[]⟩,.slice none 0 0,.slice none 0 0] rA (0,0)))):=fun W hW=>
  ⟨(hW.block _ (by omega)).trans hx0,(hW.block _ (by omega)).trans hx1,(hW.block _ (by omega)).trans hx2⟩
 obtain⟨y0,y1,y2,y3,y4,y5,y6,y7,y8,y9⟩:=yB hx1
 obtain⟨l0,l1,l2,l3,_⟩:=gA hx0
 clear f0 f1 f2 f3 i0 i1 i2 i3 hv hi h hok hit hsz hr hW3 hb3 hs3 hx0 hx1 hx2 hk
 go_enter Tryz.func20,Tryz.ntmps20
 go_upto_region 1 with fail
 rw[←HW3.out]
 go_wp2_with fail
 refine(HFi.out o.path W3 HOk.out.path HB3.out.1).mono ?_
 rintro e w4 ⟨hfo,hb4⟩
 have HB4:=aA hb4
 clear y0 y1 y2 y3 y4 y5 y6 y7 y8 y9 l0 l1 l2 l3 hb4
 cases hx:eA t (cA o.path) with
 |none=>
  rw[hx] at hfo
  have hfo:e=_:=hfo
  subst hfo
  have HR5:Hid (r=.bad 5):=by
   show _=_
   rw[HRr.out]
   unfold refC
   rw[if_neg (by have:=HK.out;omega),hx]
  clear hx
  obtain⟨W5,hW5⟩:∃W5,W5=w4.alloc (.cells #[.string ⟨#[]⟩,.string ⟨#[]⟩,.slice none 0 0,.slice none 0 0] rA):=⟨_,rfl⟩
  have HW5:=aA hW5
  have HB5:Hid (Below W3.heap.size W3 W5):=by show Below _ _ _;rw[hW5];exact HB4.out.alloc HB4.out.size _
  clear hW5
  go_upto_region 2 with fail
  rw[←HW5.out]
  obtain⟨hx0,hx1,hx2⟩:=HBx.out W5 HB5.out
  obtain⟨y0,y1,y2,y3,y4,y5,y6,y7,y8,y9⟩:=yB hx1
  obtain⟨l0,l1,l2,l3,_⟩:=gA hx0
  obtain⟨z0,z1,z2,z3,zf⟩:=gA hx2
  have HZ:=aA hx2
  clear hx0 hx1 hx2
  go_wp2
  refine bodyPost_ret (v:=.tuple #[.agg #[.string t.label,.string t.head,.slice la t.lines.length lc,.slice ka t.kids.length kc],.int .i64 5]) (fA Tryz.results20 _ _ (w.heap.size+2) rA #[.string t.label,.string t.head,.slice la t.lines.length lc,.slice ka t.kids.length kc] (0,0) _ _ rfl rfl (NA HZ.out) Tryz.underlying25 rfl rfl) rfl ?_
  rw[HR5.out]
  exact OneR.bad (HB3.out.1.trans (HB5.out.mono HB3.out.1.size)) (by omega) (by omega)
 |some x=>
  rw[hx] at hfo
  obtain⟨vx,rfl,hlx⟩:=hfo
  obtain⟨j0,j1,⟨ma,mc,j2⟩,na,nc,j3⟩:=hlx.forms
  have HLx:=aA (hlx.vals j0 j1 j2 j3)
  have HX:=aA hx
  rw[j0,j1,j2,j3]
  clear hx hlx j0 j1 j2 j3
  obtain⟨W5,hW5⟩:∃W5,W5=w4.alloc (.cells #[.string x.label,.string x.head,.slice ma x.lines.length mc,.slice na x.kids.length nc] rA):=⟨_,rfl⟩
  have HW5:=aA hW5
  have hb45:Below w4.heap.size w4 W5:=by rw[hW5];exact bA _ _
  have HB5:=aA (HB4.out.trans (hb45.mono HB4.out.size))
  have hy5:W5.heap[w4.heap.size]?=some (.cells #[.string x.label,.string x.head,.slice ma x.lines.length mc,.slice na x.kids.length nc] rA (0,0)):=by rw[hW5];exact heap_alloc_new _ _
  have hs5:W5.heap.size=w4.heap.size+1:=by rw[hW5];simp
  have h34:=HB4.out.size
  have h3s:=HB3.out.2
  have HT5:=aA (aI hb45 (aI hy5 (show w.heap.size+3≤w4.heap.size∧W5.heap.size=w4.heap.size+1 from⟨by omega,hs5⟩)))
  clear hW5 hb45 hs5 h34 h3s
  go_upto_region 2 with fail
  rw[←HW5.out]
  obtain⟨hx0,hx1,hx2⟩:=HBx.out W5 HB5.out
  obtain⟨y0,y1,y2,y3,y4,y5,y6,y7,y8,y9⟩:=yB hx1
  obtain⟨l0,l1,l2,l3,_⟩:=gA hx0
  obtain⟨z0,z1,z2,z3,zf⟩:=gA hx2
  obtain⟨e0,e1,e2,e3,ef⟩:=gA hy5
  have HZ:=aA hx2
  clear hx0 hx1 hx2 hy5
  have HRx:Hid (r=match textC x o with| .bad c=>COut.bad c| .ok y=>.ok (JA o.path y t)):=by
   show _=_
   rw[HRr.out]
   unfold refC
   rw[if_neg (by have:=HK.out;omega),HX.out]
   show (if o.kind≤5 then (match textC x o with| .bad c=>COut.bad c| .ok y=>.ok (JA o.path y t))
    else if o.kind=6 then refPut t o x
    else if o.path.size=0 then .bad 5
    else if o.kind=7 then .ok (refGone t o)
    else if o.kind=8 then refLab t o x
    else refMove t o x)=_
   rw[if_pos (by have:=HK.out;omega)]
  have hxr:=qB _ 0 t x HLaw.out.1 HX.out
  have hxt:=hxr.texts
  obtain⟨hsl,hcl⟩:=GD HLx.out
  have hln:Calls Tryz.prog 41 #[.slice ma x.lines.length mc,.agg #[.int .i64 2,.string o.path,.string o.at',.string o.text,.string o.new,.int .i64 o.line,.string o.item.label,.string o.item.head,.slice ja o.item.lines.length jc,.slice qa o.item.kids.length qc]] W5 (LnR W5 (fun q=>P q∧q<w.heap.size) x (textC x o)):=by
   have hs5:StrsP W5 (fun q=>P q∧q<w.heap.size) ma x.lines:=hsl.on fun b hb hp=>⟨HT5.out.1.block b hb,hp⟩
   have:=nQ (x:=x) (o:=o) (iv:=wA (.string o.item.label) (.string o.item.head) (.slice ja o.item.lines.length jc) (.slice qa o.item.kids.length qc)) HK.out (by have:=HOk.out.text;omega) rfl rfl rfl rfl hs5 hcl (by omega)
   unfold FB at this
   rw[HK.out] at this
   exact this
  have HLn:=aA hln
  clear hxr hxt hsl hcl hln
  go_wp2_with fail
  refine HLn.out.mono ?_
  rintro e w6 ⟨hb6,a6,c6,L,code,rfl,hLc,hsL,hmt⟩
  obtain⟨Ln,hLn⟩:∃Ln,Ln=L.length:=⟨_,rfl⟩
  rw[←hLn]
  have h56:=hb6.size
  obtain⟨W7,hW7⟩:∃W7,W7=w6.setCell ⟨w4.heap.size,2,none⟩ (.slice a6 Ln c6):=⟨_,rfl⟩
  have hy6:=(hb6.block w4.heap.size (Array.getElem?_eq_some_iff.1 HT5.out.2.1).1).trans HT5.out.2.1
  have hy7:W7.heap[w4.heap.size]?=some (.cells #[.string x.label,.string x.head,.slice a6 Ln c6,.slice na x.kids.length nc] rA (0,0)):=by rw[hW7,heap_setCell_same _ _ _ _ _ _ hy6];rfl
  have hf7:∀q,q≠w4.heap.size→W7.heap[q]?=w6.heap[q]?:=fun q hq=>by rw[hW7];exact Below.heap_setCell _ _ _ _ hq
  have hs7:W7.heap.size=w6.heap.size:=by rw[hW7];simp
  have hsz5:=HT5.out.2.2
  have hbw5:Below w.heap.size w W5:=HB3.out.1.trans (HB5.out.mono HB3.out.1.size)
  have hbw6:Below w.heap.size w w6:=hbw5.trans (hb6.mono hbw5.size)
  have hbw7:Below w.heap.size w W7:=by rw[hW7];exact hbw6.setCell (by show w.heap.size≤w4.heap.size;omega) _
  have hlt7:Lies W7 (fun q=>(P q∧q<w.heap.size)∨W5.heap.size≤q) (wA (.string t.label) (.string t.head) (.slice la t.lines.length lc) (.slice ka t.kids.length kc)) t:=HLv.out.step fun b hb hp=>⟨hbw7.block b hb,.inl hp⟩
  have hlx7:Lies W7 (fun q=>(P q∧q<w.heap.size)∨W5.heap.size≤q) (wA (.string x.label) (.string x.head) (.slice a6 L.length c6) (.slice na x.kids.length nc)) (x.setLines L):=
   ID (HLx.out.step (P':=fun q=>(P q∧q<w.heap.size)∨W5.heap.size≤q) fun b hb hp=>⟨(hf7 b (by have:=hp.2;omega)).trans ((hb6.block b (by omega)).trans (HT5.out.1.block b hb)),.inl hp⟩) (hsL.on fun b hb hp=>⟨hf7 b (by rcases hp with hp|hp;(have:=hp.2;omega);omega),hp⟩) hLc
  have hwt:=EC _ o.path (by have:=HOk.out.path;omega) t (x.setLines L) _ _ W7 hlt7 hlx7 (by have:=HSz.out;omega)
  rw[←hLn] at hlx7
  have hwt2:Calls Tryz.prog 40 #[.agg #[.string t.label,.string t.head,.slice la t.lines.length lc,.slice ka t.kids.length kc],.string o.path,.agg #[.string x.label,.string x.head,.slice a6 Ln c6,.slice na x.kids.length nc]] W7 (RpOut (fun q=>(P q∧q<w.heap.size)∨W5.heap.size≤q) W7 (JA o.path (x.setLines L) t)):=by rw[hLn];exact hwt
  have HRU:Hid ((∃c:Nat,code=c∧0<c∧r=.bad c)∨(code=0∧r=.ok (JA o.path (x.setLines L) t))):=by
   show _∨_
   rw[HRx.out]
   cases ht:textC x o with
   |bad c=>rw[ht] at hmt;exact .inl ⟨c,hmt.1,hmt.2,rfl⟩
   |ok y=>rw[ht] at hmt;refine .inr ⟨hmt.1,?_⟩;rw[hmt.2]
  obtain⟨hx0,hx1,hx2⟩:=HBx.out w6 (HB5.out.trans (hb6.mono HB5.out.size))
  have hr7:W7.heap[w.heap.size]?=some (.cells #[.string t.label,.string t.head,.slice la t.lines.length lc,.slice ka t.kids.length kc] rA (0,0))∧W7.heap[w.heap.size+1]?=some (.cells #[.int .i64 2,.string o.path,.string o.at',.string o.text,.string o.new,.int .i64 o.line,.string o.item.label,.string o.item.head,.slice ja o.item.lines.length jc,.slice qa o.item.kids.length qc] 46 (0,0))∧W7.heap[w.heap.size+2]?=some (.cells #[.string ⟨#[]⟩,.string ⟨#[]⟩,.slice none 0 0,.slice none 0 0] rA (0,0)):=⟨(hf7 _ (by omega)).trans hx0,(hf7 _ (by omega)).trans hx1,(hf7 _ (by omega)).trans hx2⟩
  obtain⟨q0,q1,q2,q3,qf⟩:=gA hy6
  have HWt:=aA hwt2
  have HW7:=aA hW7
  have HR7:=aA (aI hr7 (aI hy7 (aI hbw7 hs7)))
  have HZ5:=aA (show w.heap.size+2<W5.heap.size∧W5.heap.size≤W7.heap.size from⟨by omega,by omega⟩)
  clear h56 hy6 hy7 hf7 hs7 hsz5 hbw5 hbw6 hbw7 hlt7 hlx7 hwt hwt2 hx0 hx1 hx2 hr7 hW7 hLn hLc hsL hmt hb6
  clear y0 y1 y2 y3 y4 y5 y6 y7 y8 y9 l0 l1 l2 l3 z0 z1 z2 z3 zf e0 e1 e2 e3 ef
  go_upto_region 16 with fail
  rw[←HW7.out]
  clear q0 q1 q2 q3 qf
  obtain⟨y0,y1,y2,y3,y4,y5,y6,y7,y8,y9⟩:=yB HR7.out.1.2.1
  obtain⟨l0,l1,l2,l3,_⟩:=gA HR7.out.1.1
  obtain⟨e0,e1,e2,e3,_⟩:=gA HR7.out.2.1
  go_wp2_with fail
  refine HWt.out.mono ?_
  rintro e w8 ⟨⟨v8,rfl,hl8⟩,hb8⟩
  obtain⟨k0,k1,⟨oa,oc,k2⟩,pa,pc,k3⟩:=hl8.forms
  have HL8:=aA (hl8.vals k0 k1 k2 k3)
  rw[k0,k1,k2,k3]
  obtain⟨U,hU⟩:∃U,U=JA o.path (x.setLines L) t:=⟨_,rfl⟩
  rw[←hU] at HL8 HRU ⊢
  have hz8:=(hb8.block (w.heap.size+2) (Array.getElem?_eq_some_iff.1 HR7.out.1.2.2).1).trans HR7.out.1.2.2
  obtain⟨z0,z1,z2,z3,zf⟩:=gA hz8
  have HZ8:=aA hz8
  have HB8:=aA (aI (HR7.out.2.2.1.trans (hb8.mono HR7.out.2.2.1.size)) (show w.heap.size+2<W7.heap.size from(Array.getElem?_eq_some_iff.1 HR7.out.1.2.2).1))
  clear y0 y1 y2 y3 y4 y5 y6 y7 y8 y9 l0 l1 l2 l3 e0 e1 e2 e3 hl8 k0 k1 k2 k3 hU hz8 hb8 HWt
  go_wp2
  refine bodyPost_ret (v:=.tuple #[.agg #[.string U.label,.string U.head,.slice oa U.lines.length oc,.slice pa U.kids.length pc],.int .i64 code]) (fA Tryz.results20 _ _ (w.heap.size+2) rA #[.string U.label,.string U.head,.slice oa U.lines.length oc,.slice pa U.kids.length pc] (0,0) _ _ rfl rfl (NA HZ8.out) Tryz.underlying25 rfl rfl) rfl ?_
  have hl9:Lies w8 (fun q=>(P q∧q<w.heap.size)∨w.heap.size+2<q) (wA (.string U.label) (.string U.head) (.slice oa U.lines.length oc) (.slice pa U.kids.length pc)) U:=HL8.out.step fun b hb hp=>⟨rfl,by
   have:=HZ5.out
   rcases hp with (hp|hp)|hp
   ·exact .inl hp
   ·exact .inr (by omega)
   ·exact .inr (by omega)⟩
  rcases HRU.out with ⟨c,h1,h2,h3⟩|⟨h1,h3⟩
  ·rw[h3,h1];exact OneR.bad HB8.out.1 (by omega) h2
  ·rw[h3,h1];exact OneR.ok HB8.out.1 (by omega) (v':=wA (.string U.label) (.string U.head) (.slice oa U.lines.length oc) (.slice pa U.kids.length pc)) rfl hl9
theorem lS{t:It}{o:OpW}(hk:o.kind=3)(h:UC t)(hok:OpOk o)(hit:FewIt o.item)(hsz:jA o.item≤400000){w:World}{P:Nat→Prop}{v iv:Nat→Value}(hv:Lies w P v t)(hi:Lies w P iv o.item):
 Calls Tryz.prog 20 #[.agg #[v 0,v 1,v 2,v 3],.agg (FB o iv)] w (OneR w P (refC t o)):=by
 obtain⟨f0,f1,⟨la,lc,f2⟩,ka,kc,f3⟩:=hv.forms
 obtain⟨i0,i1,⟨ja,jc,i2⟩,qa,qc,i3⟩:=hi.forms
 have HLv:=aA (hv.inn.vals f0 f1 f2 f3)
 have HLi:=aA (hi.inn.vals i0 i1 i2 i3)
 have HSz:=aA (sB h)
 have HOk:=aA hok
 have HIt:=aA (aI hit hsz)
 have HLaw:=aA h
 have HFi:Hid (∀s W,s.size≤6000→Below w.heap.size w W→Calls Tryz.prog 39 #[.agg #[.string t.label,.string t.head,.slice la t.lines.length lc,.slice ka t.kids.length kc],.string s] W fun e w'=>aG e w' (fun k=>P k∧k<w.heap.size) (eA t (cA s))∧Below W.heap.size W w'):=fun s W hs hW=>
  AB t s (by omega) (fun x hx=>by obtain⟨r,hr⟩:=hx;have:=KA (p:=r) h hr;omega) W _ (wA _ _ _ _) (HLv.out.bel hW)
 obtain⟨r,hr⟩:∃r,r=refC t o:=⟨_,rfl⟩
 have HRr:Hid (r=refC t o):=hr
 rw[←hr]
 have HK:Hid (o.kind=3):=hk
 unfold FB
 rw[f0,f1,f2,f3,i0,i1,i2,i3]
 rw[hk]
 obtain⟨W3,hW3,hb3,hs3,hx0,hx1,hx2⟩:=GC w (.cells #[.string t.label,.string t.head,.slice la t.lines.length lc,.slice ka t.kids.length kc] rA) (.cells #[.int .i64 3,.string o.path,.string o.at',.string o.text,.string o.new,.int .i64 o.line,.string o.item.label,.string o.item.head,.slice ja o.item.lines.length jc,.slice qa o.item.kids.length qc] 46) (.cells #[.string ⟨#[]⟩,.string ⟨#[]⟩,.slice none 0 0,.slice none 0 0] rA)
 have HW3:=aA hW3
 have HB3:=aA (aI hb3 hs3)
 have HBx:Hid (∀W,Below W3.heap.size W3 W→(W.heap[w.heap.size]?=some (.cells #[.string t.label,.string t.head,.slice la t.lines.length lc,.slice ka t.kids.length kc] rA (0,0))∧W.heap[w.heap.size+1]?=some (.cells #[.int .i64 3,.string o.path,.string o.at',.string o.text,.string o.new,.int .i64 o.line,.string o.item.label,.string o.item.head,.slice ja o.item.lines.length jc,.slice qa o.item.kids.length qc] 46 (0,0))∧W.heap[w.heap.size+2]?=some (.cells #[.string ⟨#[]⟩,.string ⟨#[]⟩,.slice none 0 0,.slice none 0 0] rA (0,0)))):=fun W hW=>
  ⟨(hW.block _ (by omega)).trans hx0,(hW.block _ (by omega)).trans hx1,(hW.block _ (by omega)).trans hx2⟩
 obtain⟨y0,y1,y2,y3,y4,y5,y6,y7,y8,y9⟩:=yB hx1
 obtain⟨l0,l1,l2,l3,_⟩:=gA hx0
 clear f0 f1 f2 f3 i0 i1 i2 i3 hv hi h hok hit hsz hr hW3 hb3 hs3 hx0 hx1 hx2 hk
 go_enter Tryz.func20,Tryz.ntmps20
 go_upto_region 1 with fail
 rw[←HW3.out]
 go_wp2_with fail
 refine(HFi.out o.path W3 HOk.out.path HB3.out.1).mono ?_
 rintro e w4 ⟨hfo,hb4⟩
 have HB4:=aA hb4
 clear y0 y1 y2 y3 y4 y5 y6 y7 y8 y9 l0 l1 l2 l3 hb4
 cases hx:eA t (cA o.path) with
 |none=>
  rw[hx] at hfo
  have hfo:e=_:=hfo
  subst hfo
  have HR5:Hid (r=.bad 5):=by
   show _=_
   rw[HRr.out]
   unfold refC
   rw[if_neg (by have:=HK.out;omega),hx]
  clear hx
  obtain⟨W5,hW5⟩:∃W5,W5=w4.alloc (.cells #[.string ⟨#[]⟩,.string ⟨#[]⟩,.slice none 0 0,.slice none 0 0] rA):=⟨_,rfl⟩
  have HW5:=aA hW5
  have HB5:Hid (Below W3.heap.size W3 W5):=by show Below _ _ _;rw[hW5];exact HB4.out.alloc HB4.out.size _
  clear hW5
  go_upto_region 2 with fail
  rw[←HW5.out]
  obtain⟨hx0,hx1,hx2⟩:=HBx.out W5 HB5.out
  obtain⟨y0,y1,y2,y3,y4,y5,y6,y7,y8,y9⟩:=yB hx1
  obtain⟨l0,l1,l2,l3,_⟩:=gA hx0
  obtain⟨z0,z1,z2,z3,zf⟩:=gA hx2
  have HZ:=aA hx2
  clear hx0 hx1 hx2
  go_wp2
  refine bodyPost_ret (v:=.tuple #[.agg #[.string t.label,.string t.head,.slice la t.lines.length lc,.slice ka t.kids.length kc],.int .i64 5]) (fA Tryz.results20 _ _ (w.heap.size+2) rA #[.string t.label,.string t.head,.slice la t.lines.length lc,.slice ka t.kids.length kc] (0,0) _ _ rfl rfl (NA HZ.out) Tryz.underlying25 rfl rfl) rfl ?_
  rw[HR5.out]
  exact OneR.bad (HB3.out.1.trans (HB5.out.mono HB3.out.1.size)) (by omega) (by omega)
 |some x=>
  rw[hx] at hfo
  obtain⟨vx,rfl,hlx⟩:=hfo
  obtain⟨j0,j1,⟨ma,mc,j2⟩,na,nc,j3⟩:=hlx.forms
  have HLx:=aA (hlx.vals j0 j1 j2 j3)
  have HX:=aA hx
  rw[j0,j1,j2,j3]
  clear hx hlx j0 j1 j2 j3
  obtain⟨W5,hW5⟩:∃W5,W5=w4.alloc (.cells #[.string x.label,.string x.head,.slice ma x.lines.length mc,.slice na x.kids.length nc] rA):=⟨_,rfl⟩
  have HW5:=aA hW5
  have hb45:Below w4.heap.size w4 W5:=by rw[hW5];exact bA _ _
  have HB5:=aA (HB4.out.trans (hb45.mono HB4.out.size))
  have hy5:W5.heap[w4.heap.size]?=some (.cells #[.string x.label,.string x.head,.slice ma x.lines.length mc,.slice na x.kids.length nc] rA (0,0)):=by rw[hW5];exact heap_alloc_new _ _
  have hs5:W5.heap.size=w4.heap.size+1:=by rw[hW5];simp
  have h34:=HB4.out.size
  have h3s:=HB3.out.2
  have HT5:=aA (aI hb45 (aI hy5 (show w.heap.size+3≤w4.heap.size∧W5.heap.size=w4.heap.size+1 from⟨by omega,hs5⟩)))
  clear hW5 hb45 hs5 h34 h3s
  go_upto_region 2 with fail
  rw[←HW5.out]
  obtain⟨hx0,hx1,hx2⟩:=HBx.out W5 HB5.out
  obtain⟨y0,y1,y2,y3,y4,y5,y6,y7,y8,y9⟩:=yB hx1
  obtain⟨l0,l1,l2,l3,_⟩:=gA hx0
  obtain⟨z0,z1,z2,z3,zf⟩:=gA hx2
  obtain⟨e0,e1,e2,e3,ef⟩:=gA hy5
  have HZ:=aA hx2
  clear hx0 hx1 hx2 hy5
  have HRx:Hid (r=match textC x o with| .bad c=>COut.bad c| .ok y=>.ok (JA o.path y t)):=by
   show _=_
   rw[HRr.out]
   unfold refC
   rw[if_neg (by have:=HK.out;omega),HX.out]
   show (if o.kind≤5 then (match textC x o with| .bad c=>COut.bad c| .ok y=>.ok (JA o.path y t))
    else if o.kind=6 then refPut t o x
    else if o.path.size=0 then .bad 5
    else if o.kind=7 then .ok (refGone t o)
    else if o.kind=8 then refLab t o x
    else refMove t o x)=_
   rw[if_pos (by have:=HK.out;omega)]
  have hxr:=qB _ 0 t x HLaw.out.1 HX.out
  have hxt:=hxr.texts
  obtain⟨hsl,hcl⟩:=GD HLx.out
  have hln:Calls Tryz.prog 41 #[.slice ma x.lines.length mc,.agg #[.int .i64 3,.string o.path,.string o.at',.string o.text,.string o.new,.int .i64 o.line,.string o.item.label,.string o.item.head,.slice ja o.item.lines.length jc,.slice qa o.item.kids.length qc]] W5 (LnR W5 (fun q=>P q∧q<w.heap.size) x (textC x o)):=by
   have hs5:StrsP W5 (fun q=>P q∧q<w.heap.size) ma x.lines:=hsl.on fun b hb hp=>⟨HT5.out.1.block b hb,hp⟩
   have:=oQ (x:=x) (o:=o) (iv:=wA (.string o.item.label) (.string o.item.head) (.slice ja o.item.lines.length jc) (.slice qa o.item.kids.length qc)) HK.out (by have:=HOk.out.text;omega) rfl rfl rfl rfl hs5 hcl (by omega)
   unfold FB at this
   rw[HK.out] at this
   exact this
  have HLn:=aA hln
  clear hxr hxt hsl hcl hln
  go_wp2_with fail
  refine HLn.out.mono ?_
  rintro e w6 ⟨hb6,a6,c6,L,code,rfl,hLc,hsL,hmt⟩
  obtain⟨Ln,hLn⟩:∃Ln,Ln=L.length:=⟨_,rfl⟩
  rw[←hLn]
  have h56:=hb6.size
  obtain⟨W7,hW7⟩:∃W7,W7=w6.setCell ⟨w4.heap.size,2,none⟩ (.slice a6 Ln c6):=⟨_,rfl⟩
  have hy6:=(hb6.block w4.heap.size (Array.getElem?_eq_some_iff.1 HT5.out.2.1).1).trans HT5.out.2.1
  have hy7:W7.heap[w4.heap.size]?=some (.cells #[.string x.label,.string x.head,.slice a6 Ln c6,.slice na x.kids.length nc] rA (0,0)):=by rw[hW7,heap_setCell_same _ _ _ _ _ _ hy6];rfl
  have hf7:∀q,q≠w4.heap.size→W7.heap[q]?=w6.heap[q]?:=fun q hq=>by rw[hW7];exact Below.heap_setCell _ _ _ _ hq
  have hs7:W7.heap.size=w6.heap.size:=by rw[hW7];simp
  have hsz5:=HT5.out.2.2
  have hbw5:Below w.heap.size w W5:=HB3.out.1.trans (HB5.out.mono HB3.out.1.size)
  have hbw6:Below w.heap.size w w6:=hbw5.trans (hb6.mono hbw5.size)
  have hbw7:Below w.heap.size w W7:=by rw[hW7];exact hbw6.setCell (by show w.heap.size≤w4.heap.size;omega) _
  have hlt7:Lies W7 (fun q=>(P q∧q<w.heap.size)∨W5.heap.size≤q) (wA (.string t.label) (.string t.head) (.slice la t.lines.length lc) (.slice ka t.kids.length kc)) t:=HLv.out.step fun b hb hp=>⟨hbw7.block b hb,.inl hp⟩
  have hlx7:Lies W7 (fun q=>(P q∧q<w.heap.size)∨W5.heap.size≤q) (wA (.string x.label) (.string x.head) (.slice a6 L.length c6) (.slice na x.kids.length nc)) (x.setLines L):=
   ID (HLx.out.step (P':=fun q=>(P q∧q<w.heap.size)∨W5.heap.size≤q) fun b hb hp=>⟨(hf7 b (by have:=hp.2;omega)).trans ((hb6.block b (by omega)).trans (HT5.out.1.block b hb)),.inl hp⟩) (hsL.on fun b hb hp=>⟨hf7 b (by rcases hp with hp|hp;(have:=hp.2;omega);omega),hp⟩) hLc
  have hwt:=EC _ o.path (by have:=HOk.out.path;omega) t (x.setLines L) _ _ W7 hlt7 hlx7 (by have:=HSz.out;omega)
  rw[←hLn] at hlx7
  have hwt2:Calls Tryz.prog 40 #[.agg #[.string t.label,.string t.head,.slice la t.lines.length lc,.slice ka t.kids.length kc],.string o.path,.agg #[.string x.label,.string x.head,.slice a6 Ln c6,.slice na x.kids.length nc]] W7 (RpOut (fun q=>(P q∧q<w.heap.size)∨W5.heap.size≤q) W7 (JA o.path (x.setLines L) t)):=by rw[hLn];exact hwt
  have HRU:Hid ((∃c:Nat,code=c∧0<c∧r=.bad c)∨(code=0∧r=.ok (JA o.path (x.setLines L) t))):=by
   show _∨_
   rw[HRx.out]
   cases ht:textC x o with
   |bad c=>rw[ht] at hmt;exact .inl ⟨c,hmt.1,hmt.2,rfl⟩
   |ok y=>rw[ht] at hmt;refine .inr ⟨hmt.1,?_⟩;rw[hmt.2]
  obtain⟨hx0,hx1,hx2⟩:=HBx.out w6 (HB5.out.trans (hb6.mono HB5.out.size))
  have hr7:W7.heap[w.heap.size]?=some (.cells #[.string t.label,.string t.head,.slice la t.lines.length lc,.slice ka t.kids.length kc] rA (0,0))∧W7.heap[w.heap.size+1]?=some (.cells #[.int .i64 3,.string o.path,.string o.at',.string o.text,.string o.new,.int .i64 o.line,.string o.item.label,.string o.item.head,.slice ja o.item.lines.length jc,.slice qa o.item.kids.length qc] 46 (0,0))∧W7.heap[w.heap.size+2]?=some (.cells #[.string ⟨#[]⟩,.string ⟨#[]⟩,.slice none 0 0,.slice none 0 0] rA (0,0)):=⟨(hf7 _ (by omega)).trans hx0,(hf7 _ (by omega)).trans hx1,(hf7 _ (by omega)).trans hx2⟩
  obtain⟨q0,q1,q2,q3,qf⟩:=gA hy6
  have HWt:=aA hwt2
  have HW7:=aA hW7
  have HR7:=aA (aI hr7 (aI hy7 (aI hbw7 hs7)))
  have HZ5:=aA (show w.heap.size+2<W5.heap.size∧W5.heap.size≤W7.heap.size from⟨by omega,by omega⟩)
  clear h56 hy6 hy7 hf7 hs7 hsz5 hbw5 hbw6 hbw7 hlt7 hlx7 hwt hwt2 hx0 hx1 hx2 hr7 hW7 hLn hLc hsL hmt hb6
  clear y0 y1 y2 y3 y4 y5 y6 y7 y8 y9 l0 l1 l2 l3 z0 z1 z2 z3 zf e0 e1 e2 e3 ef
  go_upto_region 16 with fail
  rw[←HW7.out]
  clear q0 q1 q2 q3 qf
  obtain⟨y0,y1,y2,y3,y4,y5,y6,y7,y8,y9⟩:=yB HR7.out.1.2.1
  obtain⟨l0,l1,l2,l3,_⟩:=gA HR7.out.1.1
  obtain⟨e0,e1,e2,e3,_⟩:=gA HR7.out.2.1
  go_wp2_with fail
  refine HWt.out.mono ?_
  rintro e w8 ⟨⟨v8,rfl,hl8⟩,hb8⟩
  obtain⟨k0,k1,⟨oa,oc,k2⟩,pa,pc,k3⟩:=hl8.forms
  have HL8:=aA (hl8.vals k0 k1 k2 k3)
  rw[k0,k1,k2,k3]
  obtain⟨U,hU⟩:∃U,U=JA o.path (x.setLines L) t:=⟨_,rfl⟩
  rw[←hU] at HL8 HRU ⊢
  have hz8:=(hb8.block (w.heap.size+2) (Array.getElem?_eq_some_iff.1 HR7.out.1.2.2).1).trans HR7.out.1.2.2
  obtain⟨z0,z1,z2,z3,zf⟩:=gA hz8
  have HZ8:=aA hz8
  have HB8:=aA (aI (HR7.out.2.2.1.trans (hb8.mono HR7.out.2.2.1.size)) (show w.heap.size+2<W7.heap.size from(Array.getElem?_eq_some_iff.1 HR7.out.1.2.2).1))
  clear y0 y1 y2 y3 y4 y5 y6 y7 y8 y9 l0 l1 l2 l3 e0 e1 e2 e3 hl8 k0 k1 k2 k3 hU hz8 hb8 HWt
  go_wp2
  refine bodyPost_ret (v:=.tuple #[.agg #[.string U.label,.string U.head,.slice oa U.lines.length oc,.slice pa U.kids.length pc],.int .i64 code]) (fA Tryz.results20 _ _ (w.heap.size+2) rA #[.string U.label,.string U.head,.slice oa U.lines.length oc,.slice pa U.kids.length pc] (0,0) _ _ rfl rfl (NA HZ8.out) Tryz.underlying25 rfl rfl) rfl ?_
  have hl9:Lies w8 (fun q=>(P q∧q<w.heap.size)∨w.heap.size+2<q) (wA (.string U.label) (.string U.head) (.slice oa U.lines.length oc) (.slice pa U.kids.length pc)) U:=HL8.out.step fun b hb hp=>⟨rfl,by
   have:=HZ5.out
   rcases hp with (hp|hp)|hp
   ·exact .inl hp
   ·exact .inr (by omega)
   ·exact .inr (by omega)⟩
  rcases HRU.out with ⟨c,h1,h2,h3⟩|⟨h1,h3⟩
  ·rw[h3,h1];exact OneR.bad HB8.out.1 (by omega) h2
  ·rw[h3,h1];exact OneR.ok HB8.out.1 (by omega) (v':=wA (.string U.label) (.string U.head) (.slice oa U.lines.length oc) (.slice pa U.kids.length pc)) rfl hl9
theorem mS{t:It}{o:OpW}(hk:o.kind=4)(h:UC t)(hok:OpOk o)(hit:FewIt o.item)(hsz:jA o.item≤400000){w:World}{P:Nat→Prop}{v iv:Nat→Value}(hv:Lies w P v t)(hi:Lies w P iv o.item):
 Calls Tryz.prog 20 #[.agg #[v 0,v 1,v 2,v 3],.agg (FB o iv)] w (OneR w P (refC t o)):=by
 obtain⟨f0,f1,⟨la,lc,f2⟩,ka,kc,f3⟩:=hv.forms
 obtain⟨i0,i1,⟨ja,jc,i2⟩,qa,qc,i3⟩:=hi.forms
 have HLv:=aA (hv.inn.vals f0 f1 f2 f3)
 have HLi:=aA (hi.inn.vals i0 i1 i2 i3)
 have HSz:=aA (sB h)
 have HOk:=aA hok
 have HIt:=aA (aI hit hsz)
 have HLaw:=aA h
 have HFi:Hid (∀s W,s.size≤6000→Below w.heap.size w W→Calls Tryz.prog 39 #[.agg #[.string t.label,.string t.head,.slice la t.lines.length lc,.slice ka t.kids.length kc],.string s] W fun e w'=>aG e w' (fun k=>P k∧k<w.heap.size) (eA t (cA s))∧Below W.heap.size W w'):=fun s W hs hW=>
  AB t s (by omega) (fun x hx=>by obtain⟨r,hr⟩:=hx;have:=KA (p:=r) h hr;omega) W _ (wA _ _ _ _) (HLv.out.bel hW)
 obtain⟨r,hr⟩:∃r,r=refC t o:=⟨_,rfl⟩
 have HRr:Hid (r=refC t o):=hr
 rw[←hr]
 have HK:Hid (o.kind=4):=hk
 unfold FB
 rw[f0,f1,f2,f3,i0,i1,i2,i3]
 rw[hk]
 obtain⟨W3,hW3,hb3,hs3,hx0,hx1,hx2⟩:=GC w (.cells #[.string t.label,.string t.head,.slice la t.lines.length lc,.slice ka t.kids.length kc] rA) (.cells #[.int .i64 4,.string o.path,.string o.at',.string o.text,.string o.new,.int .i64 o.line,.string o.item.label,.string o.item.head,.slice ja o.item.lines.length jc,.slice qa o.item.kids.length qc] 46) (.cells #[.string ⟨#[]⟩,.string ⟨#[]⟩,.slice none 0 0,.slice none 0 0] rA)
 have HW3:=aA hW3
 have HB3:=aA (aI hb3 hs3)
 have HBx:Hid (∀W,Below W3.heap.size W3 W→(W.heap[w.heap.size]?=some (.cells #[.string t.label,.string t.head,.slice la t.lines.length lc,.slice ka t.kids.length kc] rA (0,0))∧W.heap[w.heap.size+1]?=some (.cells #[.int .i64 4,.string o.path,.string o.at',.string o.text,.string o.new,.int .i64 o.line,.string o.item.label,.string o.item.head,.slice ja o.item.lines.length jc,.slice qa o.item.kids.length qc] 46 (0,0))∧W.heap[w.heap.size+2]?=some (.cells #[.string ⟨#[]⟩,.string ⟨#[]⟩,.slice none 0 0,.slice none 0 0] rA (0,0)))):=fun W hW=>
  ⟨(hW.block _ (by omega)).trans hx0,(hW.block _ (by omega)).trans hx1,(hW.block _ (by omega)).trans hx2⟩
 obtain⟨y0,y1,y2,y3,y4,y5,y6,y7,y8,y9⟩:=yB hx1
 obtain⟨l0,l1,l2,l3,_⟩:=gA hx0
 clear f0 f1 f2 f3 i0 i1 i2 i3 hv hi h hok hit hsz hr hW3 hb3 hs3 hx0 hx1 hx2 hk
 go_enter Tryz.func20,Tryz.ntmps20
 go_upto_region 1 with fail
 rw[←HW3.out]
 go_wp2_with fail
 refine(HFi.out o.path W3 HOk.out.path HB3.out.1).mono ?_
 rintro e w4 ⟨hfo,hb4⟩
 have HB4:=aA hb4
 clear y0 y1 y2 y3 y4 y5 y6 y7 y8 y9 l0 l1 l2 l3 hb4
 cases hx:eA t (cA o.path) with
 |none=>
  rw[hx] at hfo
  have hfo:e=_:=hfo
  subst hfo
  have HR5:Hid (r=.bad 5):=by
   show _=_
   rw[HRr.out]
   unfold refC
   rw[if_neg (by have:=HK.out;omega),hx]
  clear hx
  obtain⟨W5,hW5⟩:∃W5,W5=w4.alloc (.cells #[.string ⟨#[]⟩,.string ⟨#[]⟩,.slice none 0 0,.slice none 0 0] rA):=⟨_,rfl⟩
  have HW5:=aA hW5
  have HB5:Hid (Below W3.heap.size W3 W5):=by show Below _ _ _;rw[hW5];exact HB4.out.alloc HB4.out.size _
  clear hW5
  go_upto_region 2 with fail
  rw[←HW5.out]
  obtain⟨hx0,hx1,hx2⟩:=HBx.out W5 HB5.out
  obtain⟨y0,y1,y2,y3,y4,y5,y6,y7,y8,y9⟩:=yB hx1
  obtain⟨l0,l1,l2,l3,_⟩:=gA hx0
  obtain⟨z0,z1,z2,z3,zf⟩:=gA hx2
  have HZ:=aA hx2
  clear hx0 hx1 hx2
  go_wp2
  refine bodyPost_ret (v:=.tuple #[.agg #[.string t.label,.string t.head,.slice la t.lines.length lc,.slice ka t.kids.length kc],.int .i64 5]) (fA Tryz.results20 _ _ (w.heap.size+2) rA #[.string t.label,.string t.head,.slice la t.lines.length lc,.slice ka t.kids.length kc] (0,0) _ _ rfl rfl (NA HZ.out) Tryz.underlying25 rfl rfl) rfl ?_
  rw[HR5.out]
  exact OneR.bad (HB3.out.1.trans (HB5.out.mono HB3.out.1.size)) (by omega) (by omega)
 |some x=>
  rw[hx] at hfo
  obtain⟨vx,rfl,hlx⟩:=hfo
  obtain⟨j0,j1,⟨ma,mc,j2⟩,na,nc,j3⟩:=hlx.forms
  have HLx:=aA (hlx.vals j0 j1 j2 j3)
  have HX:=aA hx
  rw[j0,j1,j2,j3]
  clear hx hlx j0 j1 j2 j3
  obtain⟨W5,hW5⟩:∃W5,W5=w4.alloc (.cells #[.string x.label,.string x.head,.slice ma x.lines.length mc,.slice na x.kids.length nc] rA):=⟨_,rfl⟩
  have HW5:=aA hW5
  have hb45:Below w4.heap.size w4 W5:=by rw[hW5];exact bA _ _
  have HB5:=aA (HB4.out.trans (hb45.mono HB4.out.size))
  have hy5:W5.heap[w4.heap.size]?=some (.cells #[.string x.label,.string x.head,.slice ma x.lines.length mc,.slice na x.kids.length nc] rA (0,0)):=by rw[hW5];exact heap_alloc_new _ _
  have hs5:W5.heap.size=w4.heap.size+1:=by rw[hW5];simp
  have h34:=HB4.out.size
  have h3s:=HB3.out.2
  have HT5:=aA (aI hb45 (aI hy5 (show w.heap.size+3≤w4.heap.size∧W5.heap.size=w4.heap.size+1 from⟨by omega,hs5⟩)))
  clear hW5 hb45 hs5 h34 h3s
  go_upto_region 2 with fail
  rw[←HW5.out]
  obtain⟨hx0,hx1,hx2⟩:=HBx.out W5 HB5.out
  obtain⟨y0,y1,y2,y3,y4,y5,y6,y7,y8,y9⟩:=yB hx1
  obtain⟨l0,l1,l2,l3,_⟩:=gA hx0
  obtain⟨z0,z1,z2,z3,zf⟩:=gA hx2
  obtain⟨e0,e1,e2,e3,ef⟩:=gA hy5
  have HZ:=aA hx2
  clear hx0 hx1 hx2 hy5
  have HRx:Hid (r=match textC x o with| .bad c=>COut.bad c| .ok y=>.ok (JA o.path y t)):=by
   show _=_
   rw[HRr.out]
   unfold refC
   rw[if_neg (by have:=HK.out;omega),HX.out]
   show (if o.kind≤5 then (match textC x o with| .bad c=>COut.bad c| .ok y=>.ok (JA o.path y t))
    else if o.kind=6 then refPut t o x
    else if o.path.size=0 then .bad 5
    else if o.kind=7 then .ok (refGone t o)
    else if o.kind=8 then refLab t o x
    else refMove t o x)=_
   rw[if_pos (by have:=HK.out;omega)]
  have hxr:=qB _ 0 t x HLaw.out.1 HX.out
  have hxt:=hxr.texts
  obtain⟨hsl,hcl⟩:=GD HLx.out
  have hln:Calls Tryz.prog 41 #[.slice ma x.lines.length mc,.agg #[.int .i64 4,.string o.path,.string o.at',.string o.text,.string o.new,.int .i64 o.line,.string o.item.label,.string o.item.head,.slice ja o.item.lines.length jc,.slice qa o.item.kids.length qc]] W5 (LnR W5 (fun q=>P q∧q<w.heap.size) x (textC x o)):=by
   have hs5:StrsP W5 (fun q=>P q∧q<w.heap.size) ma x.lines:=hsl.on fun b hb hp=>⟨HT5.out.1.block b hb,hp⟩
   have:=pQ (x:=x) (o:=o) (iv:=wA (.string o.item.label) (.string o.item.head) (.slice ja o.item.lines.length jc) (.slice qa o.item.kids.length qc)) HK.out (by have:=HOk.out.text;omega) rfl rfl rfl rfl hs5 hcl (by omega)
   unfold FB at this
   rw[HK.out] at this
   exact this
  have HLn:=aA hln
  clear hxr hxt hsl hcl hln
  go_wp2_with fail
  refine HLn.out.mono ?_
  rintro e w6 ⟨hb6,a6,c6,L,code,rfl,hLc,hsL,hmt⟩
  obtain⟨Ln,hLn⟩:∃Ln,Ln=L.length:=⟨_,rfl⟩
  rw[←hLn]
  have h56:=hb6.size
  obtain⟨W7,hW7⟩:∃W7,W7=w6.setCell ⟨w4.heap.size,2,none⟩ (.slice a6 Ln c6):=⟨_,rfl⟩
  have hy6:=(hb6.block w4.heap.size (Array.getElem?_eq_some_iff.1 HT5.out.2.1).1).trans HT5.out.2.1
  have hy7:W7.heap[w4.heap.size]?=some (.cells #[.string x.label,.string x.head,.slice a6 Ln c6,.slice na x.kids.length nc] rA (0,0)):=by rw[hW7,heap_setCell_same _ _ _ _ _ _ hy6];rfl
  have hf7:∀q,q≠w4.heap.size→W7.heap[q]?=w6.heap[q]?:=fun q hq=>by rw[hW7];exact Below.heap_setCell _ _ _ _ hq
  have hs7:W7.heap.size=w6.heap.size:=by rw[hW7];simp
  have hsz5:=HT5.out.2.2
  have hbw5:Below w.heap.size w W5:=HB3.out.1.trans (HB5.out.mono HB3.out.1.size)
  have hbw6:Below w.heap.size w w6:=hbw5.trans (hb6.mono hbw5.size)
  have hbw7:Below w.heap.size w W7:=by rw[hW7];exact hbw6.setCell (by show w.heap.size≤w4.heap.size;omega) _
  have hlt7:Lies W7 (fun q=>(P q∧q<w.heap.size)∨W5.heap.size≤q) (wA (.string t.label) (.string t.head) (.slice la t.lines.length lc) (.slice ka t.kids.length kc)) t:=HLv.out.step fun b hb hp=>⟨hbw7.block b hb,.inl hp⟩
  have hlx7:Lies W7 (fun q=>(P q∧q<w.heap.size)∨W5.heap.size≤q) (wA (.string x.label) (.string x.head) (.slice a6 L.length c6) (.slice na x.kids.length nc)) (x.setLines L):=
   ID (HLx.out.step (P':=fun q=>(P q∧q<w.heap.size)∨W5.heap.size≤q) fun b hb hp=>⟨(hf7 b (by have:=hp.2;omega)).trans ((hb6.block b (by omega)).trans (HT5.out.1.block b hb)),.inl hp⟩) (hsL.on fun b hb hp=>⟨hf7 b (by rcases hp with hp|hp;(have:=hp.2;omega);omega),hp⟩) hLc
  have hwt:=EC _ o.path (by have:=HOk.out.path;omega) t (x.setLines L) _ _ W7 hlt7 hlx7 (by have:=HSz.out;omega)
  rw[←hLn] at hlx7
  have hwt2:Calls Tryz.prog 40 #[.agg #[.string t.label,.string t.head,.slice la t.lines.length lc,.slice ka t.kids.length kc],.string o.path,.agg #[.string x.label,.string x.head,.slice a6 Ln c6,.slice na x.kids.length nc]] W7 (RpOut (fun q=>(P q∧q<w.heap.size)∨W5.heap.size≤q) W7 (JA o.path (x.setLines L) t)):=by rw[hLn];exact hwt
  have HRU:Hid ((∃c:Nat,code=c∧0<c∧r=.bad c)∨(code=0∧r=.ok (JA o.path (x.setLines L) t))):=by
   show _∨_
   rw[HRx.out]
   cases ht:textC x o with
   |bad c=>rw[ht] at hmt;exact .inl ⟨c,hmt.1,hmt.2,rfl⟩
   |ok y=>rw[ht] at hmt;refine .inr ⟨hmt.1,?_⟩;rw[hmt.2]
  obtain⟨hx0,hx1,hx2⟩:=HBx.out w6 (HB5.out.trans (hb6.mono HB5.out.size))
  have hr7:W7.heap[w.heap.size]?=some (.cells #[.string t.label,.string t.head,.slice la t.lines.length lc,.slice ka t.kids.length kc] rA (0,0))∧W7.heap[w.heap.size+1]?=some (.cells #[.int .i64 4,.string o.path,.string o.at',.string o.text,.string o.new,.int .i64 o.line,.string o.item.label,.string o.item.head,.slice ja o.item.lines.length jc,.slice qa o.item.kids.length qc] 46 (0,0))∧W7.heap[w.heap.size+2]?=some (.cells #[.string ⟨#[]⟩,.string ⟨#[]⟩,.slice none 0 0,.slice none 0 0] rA (0,0)):=⟨(hf7 _ (by omega)).trans hx0,(hf7 _ (by omega)).trans hx1,(hf7 _ (by omega)).trans hx2⟩
  obtain⟨q0,q1,q2,q3,qf⟩:=gA hy6
  have HWt:=aA hwt2
  have HW7:=aA hW7
  have HR7:=aA (aI hr7 (aI hy7 (aI hbw7 hs7)))
  have HZ5:=aA (show w.heap.size+2<W5.heap.size∧W5.heap.size≤W7.heap.size from⟨by omega,by omega⟩)
  clear h56 hy6 hy7 hf7 hs7 hsz5 hbw5 hbw6 hbw7 hlt7 hlx7 hwt hwt2 hx0 hx1 hx2 hr7 hW7 hLn hLc hsL hmt hb6
  clear y0 y1 y2 y3 y4 y5 y6 y7 y8 y9 l0 l1 l2 l3 z0 z1 z2 z3 zf e0 e1 e2 e3 ef
  go_upto_region 16 with fail
  rw[←HW7.out]
  clear q0 q1 q2 q3 qf
  obtain⟨y0,y1,y2,y3,y4,y5,y6,y7,y8,y9⟩:=yB HR7.out.1.2.1
  obtain⟨l0,l1,l2,l3,_⟩:=gA HR7.out.1.1
  obtain⟨e0,e1,e2,e3,_⟩:=gA HR7.out.2.1
  go_wp2_with fail
  refine HWt.out.mono ?_
  rintro e w8 ⟨⟨v8,rfl,hl8⟩,hb8⟩
  obtain⟨k0,k1,⟨oa,oc,k2⟩,pa,pc,k3⟩:=hl8.forms
  have HL8:=aA (hl8.vals k0 k1 k2 k3)
  rw[k0,k1,k2,k3]
  obtain⟨U,hU⟩:∃U,U=JA o.path (x.setLines L) t:=⟨_,rfl⟩
  rw[←hU] at HL8 HRU ⊢
  have hz8:=(hb8.block (w.heap.size+2) (Array.getElem?_eq_some_iff.1 HR7.out.1.2.2).1).trans HR7.out.1.2.2
  obtain⟨z0,z1,z2,z3,zf⟩:=gA hz8
  have HZ8:=aA hz8
  have HB8:=aA (aI (HR7.out.2.2.1.trans (hb8.mono HR7.out.2.2.1.size)) (show w.heap.size+2<W7.heap.size from(Array.getElem?_eq_some_iff.1 HR7.out.1.2.2).1))
  clear y0 y1 y2 y3 y4 y5 y6 y7 y8 y9 l0 l1 l2 l3 e0 e1 e2 e3 hl8 k0 k1 k2 k3 hU hz8 hb8 HWt
  go_wp2
  refine bodyPost_ret (v:=.tuple #[.agg #[.string U.label,.string U.head,.slice oa U.lines.length oc,.slice pa U.kids.length pc],.int .i64 code]) (fA Tryz.results20 _ _ (w.heap.size+2) rA #[.string U.label,.string U.head,.slice oa U.lines.length oc,.slice pa U.kids.length pc] (0,0) _ _ rfl rfl (NA HZ8.out) Tryz.underlying25 rfl rfl) rfl ?_
  have hl9:Lies w8 (fun q=>(P q∧q<w.heap.size)∨w.heap.size+2<q) (wA (.string U.label) (.string U.head) (.slice oa U.lines.length oc) (.slice pa U.kids.length pc)) U:=HL8.out.step fun b hb hp=>⟨rfl,by
   have:=HZ5.out
   rcases hp with (hp|hp)|hp
   ·exact .inl hp
   ·exact .inr (by omega)
   ·exact .inr (by omega)⟩
  rcases HRU.out with ⟨c,h1,h2,h3⟩|⟨h1,h3⟩
  ·rw[h3,h1];exact OneR.bad HB8.out.1 (by omega) h2
  ·rw[h3,h1];exact OneR.ok HB8.out.1 (by omega) (v':=wA (.string U.label) (.string U.head) (.slice oa U.lines.length oc) (.slice pa U.kids.length pc)) rfl hl9
theorem nS{t:It}{o:OpW}(hk:o.kind=5)(h:UC t)(hok:OpOk o)(hit:FewIt o.item)(hsz:jA o.item≤400000){w:World}{P:Nat→Prop}{v iv:Nat→Value}(hv:Lies w P v t)(hi:Lies w P iv o.item):
 Calls Tryz.prog 20 #[.agg #[v 0,v 1,v 2,v 3],.agg (FB o iv)] w (OneR w P (refC t o)):=by
 obtain⟨f0,f1,⟨la,lc,f2⟩,ka,kc,f3⟩:=hv.forms
 obtain⟨i0,i1,⟨ja,jc,i2⟩,qa,qc,i3⟩:=hi.forms
 have HLv:=aA (hv.inn.vals f0 f1 f2 f3)
 have HLi:=aA (hi.inn.vals i0 i1 i2 i3)
 have HSz:=aA (sB h)
 have HOk:=aA hok
 have HIt:=aA (aI hit hsz)
 have HLaw:=aA h
 have HFi:Hid (∀s W,s.size≤6000→Below w.heap.size w W→Calls Tryz.prog 39 #[.agg #[.string t.label,.string t.head,.slice la t.lines.length lc,.slice ka t.kids.length kc],.string s] W fun e w'=>aG e w' (fun k=>P k∧k<w.heap.size) (eA t (cA s))∧Below W.heap.size W w'):=fun s W hs hW=>
  AB t s (by omega) (fun x hx=>by obtain⟨r,hr⟩:=hx;have:=KA (p:=r) h hr;omega) W _ (wA _ _ _ _) (HLv.out.bel hW)
 obtain⟨r,hr⟩:∃r,r=refC t o:=⟨_,rfl⟩
 have HRr:Hid (r=refC t o):=hr
 rw[←hr]
 have HK:Hid (o.kind=5):=hk
 unfold FB
 rw[f0,f1,f2,f3,i0,i1,i2,i3]
 rw[hk]
 obtain⟨W3,hW3,hb3,hs3,hx0,hx1,hx2⟩:=GC w (.cells #[.string t.label,.string t.head,.slice la t.lines.length lc,.slice ka t.kids.length kc] rA) (.cells #[.int .i64 5,.string o.path,.string o.at',.string o.text,.string o.new,.int .i64 o.line,.string o.item.label,.string o.item.head,.slice ja o.item.lines.length jc,.slice qa o.item.kids.length qc] 46) (.cells #[.string ⟨#[]⟩,.string ⟨#[]⟩,.slice none 0 0,.slice none 0 0] rA)
 have HW3:=aA hW3
 have HB3:=aA (aI hb3 hs3)
 have HBx:Hid (∀W,Below W3.heap.size W3 W→(W.heap[w.heap.size]?=some (.cells #[.string t.label,.string t.head,.slice la t.lines.length lc,.slice ka t.kids.length kc] rA (0,0))∧W.heap[w.heap.size+1]?=some (.cells #[.int .i64 5,.string o.path,.string o.at',.string o.text,.string o.new,.int .i64 o.line,.string o.item.label,.string o.item.head,.slice ja o.item.lines.length jc,.slice qa o.item.kids.length qc] 46 (0,0))∧W.heap[w.heap.size+2]?=some (.cells #[.string ⟨#[]⟩,.string ⟨#[]⟩,.slice none 0 0,.slice none 0 0] rA (0,0)))):=fun W hW=>
  ⟨(hW.block _ (by omega)).trans hx0,(hW.block _ (by omega)).trans hx1,(hW.block _ (by omega)).trans hx2⟩
 obtain⟨y0,y1,y2,y3,y4,y5,y6,y7,y8,y9⟩:=yB hx1
 obtain⟨l0,l1,l2,l3,_⟩:=gA hx0
 clear f0 f1 f2 f3 i0 i1 i2 i3 hv hi h hok hit hsz hr hW3 hb3 hs3 hx0 hx1 hx2 hk
 go_enter Tryz.func20,Tryz.ntmps20
 go_upto_region 1 with fail
 rw[←HW3.out]
 go_wp2_with fail
 refine(HFi.out o.path W3 HOk.out.path HB3.out.1).mono ?_
 rintro e w4 ⟨hfo,hb4⟩
 have HB4:=aA hb4
 clear y0 y1 y2 y3 y4 y5 y6 y7 y8 y9 l0 l1 l2 l3 hb4
 cases hx:eA t (cA o.path) with
 |none=>
  rw[hx] at hfo
  have hfo:e=_:=hfo
  subst hfo
  have HR5:Hid (r=.bad 5):=by
   show _=_
   rw[HRr.out]
   unfold refC
   rw[if_neg (by have:=HK.out;omega),hx]
  clear hx
  obtain⟨W5,hW5⟩:∃W5,W5=w4.alloc (.cells #[.string ⟨#[]⟩,.string ⟨#[]⟩,.slice none 0 0,.slice none 0 0] rA):=⟨_,rfl⟩
  have HW5:=aA hW5
  have HB5:Hid (Below W3.heap.size W3 W5):=by show Below _ _ _;rw[hW5];exact HB4.out.alloc HB4.out.size _
  clear hW5
  go_upto_region 2 with fail
  rw[←HW5.out]
  obtain⟨hx0,hx1,hx2⟩:=HBx.out W5 HB5.out
  obtain⟨y0,y1,y2,y3,y4,y5,y6,y7,y8,y9⟩:=yB hx1
  obtain⟨l0,l1,l2,l3,_⟩:=gA hx0
  obtain⟨z0,z1,z2,z3,zf⟩:=gA hx2
  have HZ:=aA hx2
  clear hx0 hx1 hx2
  go_wp2
  refine bodyPost_ret (v:=.tuple #[.agg #[.string t.label,.string t.head,.slice la t.lines.length lc,.slice ka t.kids.length kc],.int .i64 5]) (fA Tryz.results20 _ _ (w.heap.size+2) rA #[.string t.label,.string t.head,.slice la t.lines.length lc,.slice ka t.kids.length kc] (0,0) _ _ rfl rfl (NA HZ.out) Tryz.underlying25 rfl rfl) rfl ?_
  rw[HR5.out]
  exact OneR.bad (HB3.out.1.trans (HB5.out.mono HB3.out.1.size)) (by omega) (by omega)
 |some x=>
  rw[hx] at hfo
  obtain⟨vx,rfl,hlx⟩:=hfo
  obtain⟨j0,j1,⟨ma,mc,j2⟩,na,nc,j3⟩:=hlx.forms
  have HLx:=aA (hlx.vals j0 j1 j2 j3)
  have HX:=aA hx
  rw[j0,j1,j2,j3]
  clear hx hlx j0 j1 j2 j3
  obtain⟨W5,hW5⟩:∃W5,W5=w4.alloc (.cells #[.string x.label,.string x.head,.slice ma x.lines.length mc,.slice na x.kids.length nc] rA):=⟨_,rfl⟩
  have HW5:=aA hW5
  have hb45:Below w4.heap.size w4 W5:=by rw[hW5];exact bA _ _
  have HB5:=aA (HB4.out.trans (hb45.mono HB4.out.size))
  have hy5:W5.heap[w4.heap.size]?=some (.cells #[.string x.label,.string x.head,.slice ma x.lines.length mc,.slice na x.kids.length nc] rA (0,0)):=by rw[hW5];exact heap_alloc_new _ _
  have hs5:W5.heap.size=w4.heap.size+1:=by rw[hW5];simp
  have h34:=HB4.out.size
  have h3s:=HB3.out.2
  have HT5:=aA (aI hb45 (aI hy5 (show w.heap.size+3≤w4.heap.size∧W5.heap.size=w4.heap.size+1 from⟨by omega,hs5⟩)))
  clear hW5 hb45 hs5 h34 h3s
  go_upto_region 2 with fail
  rw[←HW5.out]
  obtain⟨hx0,hx1,hx2⟩:=HBx.out W5 HB5.out
  obtain⟨y0,y1,y2,y3,y4,y5,y6,y7,y8,y9⟩:=yB hx1
  obtain⟨l0,l1,l2,l3,_⟩:=gA hx0
  obtain⟨z0,z1,z2,z3,zf⟩:=gA hx2
  obtain⟨e0,e1,e2,e3,ef⟩:=gA hy5
  have HZ:=aA hx2
  clear hx0 hx1 hx2 hy5
  have HRx:Hid (r=match textC x o with| .bad c=>COut.bad c| .ok y=>.ok (JA o.path y t)):=by
   show _=_
   rw[HRr.out]
   unfold refC
   rw[if_neg (by have:=HK.out;omega),HX.out]
   show (if o.kind≤5 then (match textC x o with| .bad c=>COut.bad c| .ok y=>.ok (JA o.path y t))
    else if o.kind=6 then refPut t o x
    else if o.path.size=0 then .bad 5
    else if o.kind=7 then .ok (refGone t o)
    else if o.kind=8 then refLab t o x
    else refMove t o x)=_
   rw[if_pos (by have:=HK.out;omega)]
  have hxr:=qB _ 0 t x HLaw.out.1 HX.out
  have hxt:=hxr.texts
  obtain⟨hsl,hcl⟩:=GD HLx.out
  have hln:Calls Tryz.prog 42 #[.slice ma x.lines.length mc,.string o.text,.string o.new] W5 (LnR W5 (fun q=>P q∧q<w.heap.size) x (textC x o)):=by
   have hs5:StrsP W5 (fun q=>P q∧q<w.heap.size) ma x.lines:=hsl.on fun b hb hp=>⟨HT5.out.1.block b hb,hp⟩
   have hww:=QP (x:=x) (o:=o) (w:=W5) (by have:=HOk.out.text;omega) (by have:=HOk.out.new;omega) hs5 hcl (by omega) (fun s hs=>by have:=(hxt.2.2 s hs).1;omega) (fun s hs=>by have:=(hxt.2.2 s hs).1;omega)
   have e5:textC x o=wordsC x o:=by
    unfold textC
    rw[if_neg (by have:=HK.out;omega),if_neg (by have:=HK.out;omega),if_neg (by have:=HK.out;omega),if_pos HK.out]
   rw[e5]
   exact hww
  have HLn:=aA hln
  clear hxr hxt hsl hcl hln
  go_wp2_with fail
  refine HLn.out.mono ?_
  rintro e w6 ⟨hb6,a6,c6,L,code,rfl,hLc,hsL,hmt⟩
  obtain⟨Ln,hLn⟩:∃Ln,Ln=L.length:=⟨_,rfl⟩
  rw[←hLn]
  have h56:=hb6.size
  obtain⟨W7,hW7⟩:∃W7,W7=w6.setCell ⟨w4.heap.size,2,none⟩ (.slice a6 Ln c6):=⟨_,rfl⟩
  have hy6:=(hb6.block w4.heap.size (Array.getElem?_eq_some_iff.1 HT5.out.2.1).1).trans HT5.out.2.1
  have hy7:W7.heap[w4.heap.size]?=some (.cells #[.string x.label,.string x.head,.slice a6 Ln c6,.slice na x.kids.length nc] rA (0,0)):=by rw[hW7,heap_setCell_same _ _ _ _ _ _ hy6];rfl
  have hf7:∀q,q≠w4.heap.size→W7.heap[q]?=w6.heap[q]?:=fun q hq=>by rw[hW7];exact Below.heap_setCell _ _ _ _ hq
  have hs7:W7.heap.size=w6.heap.size:=by rw[hW7];simp
  have hsz5:=HT5.out.2.2
  have hbw5:Below w.heap.size w W5:=HB3.out.1.trans (HB5.out.mono HB3.out.1.size)
  have hbw6:Below w.heap.size w w6:=hbw5.trans (hb6.mono hbw5.size)
  have hbw7:Below w.heap.size w W7:=by rw[hW7];exact hbw6.setCell (by show w.heap.size≤w4.heap.size;omega) _
  have hlt7:Lies W7 (fun q=>(P q∧q<w.heap.size)∨W5.heap.size≤q) (wA (.string t.label) (.string t.head) (.slice la t.lines.length lc) (.slice ka t.kids.length kc)) t:=HLv.out.step fun b hb hp=>⟨hbw7.block b hb,.inl hp⟩
  have hlx7:Lies W7 (fun q=>(P q∧q<w.heap.size)∨W5.heap.size≤q) (wA (.string x.label) (.string x.head) (.slice a6 L.length c6) (.slice na x.kids.length nc)) (x.setLines L):=
   ID (HLx.out.step (P':=fun q=>(P q∧q<w.heap.size)∨W5.heap.size≤q) fun b hb hp=>⟨(hf7 b (by have:=hp.2;omega)).trans ((hb6.block b (by omega)).trans (HT5.out.1.block b hb)),.inl hp⟩) (hsL.on fun b hb hp=>⟨hf7 b (by rcases hp with hp|hp;(have:=hp.2;omega);omega),hp⟩) hLc
  have hwt:=EC _ o.path (by have:=HOk.out.path;omega) t (x.setLines L) _ _ W7 hlt7 hlx7 (by have:=HSz.out;omega)
  rw[←hLn] at hlx7
  have hwt2:Calls Tryz.prog 40 #[.agg #[.string t.label,.string t.head,.slice la t.lines.length lc,.slice ka t.kids.length kc],.string o.path,.agg #[.string x.label,.string x.head,.slice a6 Ln c6,.slice na x.kids.length nc]] W7 (RpOut (fun q=>(P q∧q<w.heap.size)∨W5.heap.size≤q) W7 (JA o.path (x.setLines L) t)):=by rw[hLn];exact hwt
  have HRU:Hid ((∃c:Nat,code=c∧0<c∧r=.bad c)∨(code=0∧r=.ok (JA o.path (x.setLines L) t))):=by
   show _∨_
   rw[HRx.out]
   cases ht:textC x o with
   |bad c=>rw[ht] at hmt;exact .inl ⟨c,hmt.1,hmt.2,rfl⟩
   |ok y=>rw[ht] at hmt;refine .inr ⟨hmt.1,?_⟩;rw[hmt.2]
  obtain⟨hx0,hx1,hx2⟩:=HBx.out w6 (HB5.out.trans (hb6.mono HB5.out.size))
  have hr7:W7.heap[w.heap.size]?=some (.cells #[.string t.label,.string t.head,.slice la t.lines.length lc,.slice ka t.kids.length kc] rA (0,0))∧W7.heap[w.heap.size+1]?=some (.cells #[.int .i64 5,.string o.path,.string o.at',.string o.text,.string o.new,.int .i64 o.line,.string o.item.label,.string o.item.head,.slice ja o.item.lines.length jc,.slice qa o.item.kids.length qc] 46 (0,0))∧W7.heap[w.heap.size+2]?=some (.cells #[.string ⟨#[]⟩,.string ⟨#[]⟩,.slice none 0 0,.slice none 0 0] rA (0,0)):=⟨(hf7 _ (by omega)).trans hx0,(hf7 _ (by omega)).trans hx1,(hf7 _ (by omega)).trans hx2⟩
  obtain⟨q0,q1,q2,q3,qf⟩:=gA hy6
  have HWt:=aA hwt2
  have HW7:=aA hW7
  have HR7:=aA (aI hr7 (aI hy7 (aI hbw7 hs7)))
  have HZ5:=aA (show w.heap.size+2<W5.heap.size∧W5.heap.size≤W7.heap.size from⟨by omega,by omega⟩)
  clear h56 hy6 hy7 hf7 hs7 hsz5 hbw5 hbw6 hbw7 hlt7 hlx7 hwt hwt2 hx0 hx1 hx2 hr7 hW7 hLn hLc hsL hmt hb6
  clear y0 y1 y2 y3 y4 y5 y6 y7 y8 y9 l0 l1 l2 l3 z0 z1 z2 z3 zf e0 e1 e2 e3 ef
  go_upto_region 20 with fail
  rw[←HW7.out]
  clear q0 q1 q2 q3 qf
  obtain⟨y0,y1,y2,y3,y4,y5,y6,y7,y8,y9⟩:=yB HR7.out.1.2.1
  obtain⟨l0,l1,l2,l3,_⟩:=gA HR7.out.1.1
  obtain⟨e0,e1,e2,e3,_⟩:=gA HR7.out.2.1
  go_wp2_with fail
  refine HWt.out.mono ?_
  rintro e w8 ⟨⟨v8,rfl,hl8⟩,hb8⟩
  obtain⟨k0,k1,⟨oa,oc,k2⟩,pa,pc,k3⟩:=hl8.forms
  have HL8:=aA (hl8.vals k0 k1 k2 k3)
  rw[k0,k1,k2,k3]
  obtain⟨U,hU⟩:∃U,U=JA o.path (x.setLines L) t:=⟨_,rfl⟩
  rw[←hU] at HL8 HRU ⊢
  have hz8:=(hb8.block (w.heap.size+2) (Array.getElem?_eq_some_iff.1 HR7.out.1.2.2).1).trans HR7.out.1.2.2
  obtain⟨z0,z1,z2,z3,zf⟩:=gA hz8
  have HZ8:=aA hz8
  have HB8:=aA (aI (HR7.out.2.2.1.trans (hb8.mono HR7.out.2.2.1.size)) (show w.heap.size+2<W7.heap.size from(Array.getElem?_eq_some_iff.1 HR7.out.1.2.2).1))
  clear y0 y1 y2 y3 y4 y5 y6 y7 y8 y9 l0 l1 l2 l3 e0 e1 e2 e3 hl8 k0 k1 k2 k3 hU hz8 hb8 HWt
  go_wp2
  refine bodyPost_ret (v:=.tuple #[.agg #[.string U.label,.string U.head,.slice oa U.lines.length oc,.slice pa U.kids.length pc],.int .i64 code]) (fA Tryz.results20 _ _ (w.heap.size+2) rA #[.string U.label,.string U.head,.slice oa U.lines.length oc,.slice pa U.kids.length pc] (0,0) _ _ rfl rfl (NA HZ8.out) Tryz.underlying25 rfl rfl) rfl ?_
  have hl9:Lies w8 (fun q=>(P q∧q<w.heap.size)∨w.heap.size+2<q) (wA (.string U.label) (.string U.head) (.slice oa U.lines.length oc) (.slice pa U.kids.length pc)) U:=HL8.out.step fun b hb hp=>⟨rfl,by
   have:=HZ5.out
   rcases hp with (hp|hp)|hp
   ·exact .inl hp
   ·exact .inr (by omega)
   ·exact .inr (by omega)⟩
  rcases HRU.out with ⟨c,h1,h2,h3⟩|⟨h1,h3⟩
  ·rw[h3,h1];exact OneR.bad HB8.out.1 (by omega) h2
  ·rw[h3,h1];exact OneR.ok HB8.out.1 (by omega) (v':=wA (.string U.label) (.string U.head) (.slice oa U.lines.length oc) (.slice pa U.kids.length pc)) rfl hl9
theorem oS{t:It}{o:OpW}(hk:o.kind=6)(h:UC t)(hok:OpOk o)(hit:FewIt o.item)(hsz:jA o.item≤400000){w:World}{P:Nat→Prop}{v iv:Nat→Value}(hv:Lies w P v t)(hi:Lies w P iv o.item):
 Calls Tryz.prog 20 #[.agg #[v 0,v 1,v 2,v 3],.agg (FB o iv)] w (OneR w P (refC t o)):=by
 obtain⟨f0,f1,⟨la,lc,f2⟩,ka,kc,f3⟩:=hv.forms
 obtain⟨i0,i1,⟨ja,jc,i2⟩,qa,qc,i3⟩:=hi.forms
 have HLv:=aA (hv.inn.vals f0 f1 f2 f3)
 have HLi:=aA (hi.inn.vals i0 i1 i2 i3)
 have HSz:=aA (sB h)
 have HOk:=aA hok
 have HIt:=aA (aI hit hsz)
 have HLaw:=aA h
 have HFi:Hid (∀s W,s.size≤6000→Below w.heap.size w W→Calls Tryz.prog 39 #[.agg #[.string t.label,.string t.head,.slice la t.lines.length lc,.slice ka t.kids.length kc],.string s] W fun e w'=>aG e w' (fun k=>P k∧k<w.heap.size) (eA t (cA s))∧Below W.heap.size W w'):=fun s W hs hW=>
  AB t s (by omega) (fun x hx=>by obtain⟨r,hr⟩:=hx;have:=KA (p:=r) h hr;omega) W _ (wA _ _ _ _) (HLv.out.bel hW)
 obtain⟨r,hr⟩:∃r,r=refC t o:=⟨_,rfl⟩
 have HRr:Hid (r=refC t o):=hr
 rw[←hr]
 have HK:Hid (o.kind=6):=hk
 unfold FB
 rw[f0,f1,f2,f3,i0,i1,i2,i3]
 rw[hk]
 obtain⟨W3,hW3,hb3,hs3,hx0,hx1,hx2⟩:=GC w (.cells #[.string t.label,.string t.head,.slice la t.lines.length lc,.slice ka t.kids.length kc] rA) (.cells #[.int .i64 6,.string o.path,.string o.at',.string o.text,.string o.new,.int .i64 o.line,.string o.item.label,.string o.item.head,.slice ja o.item.lines.length jc,.slice qa o.item.kids.length qc] 46) (.cells #[.string ⟨#[]⟩,.string ⟨#[]⟩,.slice none 0 0,.slice none 0 0] rA)
 have HW3:=aA hW3
 have HB3:=aA (aI hb3 hs3)
 have HBx:Hid (∀W,Below W3.heap.size W3 W→(W.heap[w.heap.size]?=some (.cells #[.string t.label,.string t.head,.slice la t.lines.length lc,.slice ka t.kids.length kc] rA (0,0))∧W.heap[w.heap.size+1]?=some (.cells #[.int .i64 6,.string o.path,.string o.at',.string o.text,.string o.new,.int .i64 o.line,.string o.item.label,.string o.item.head,.slice ja o.item.lines.length jc,.slice qa o.item.kids.length qc] 46 (0,0))∧W.heap[w.heap.size+2]?=some (.cells #[.string ⟨#[]⟩,.string ⟨#[]⟩,.slice none 0 0,.slice none 0 0] rA (0,0)))):=fun W hW=>
  ⟨(hW.block _ (by omega)).trans hx0,(hW.block _ (by omega)).trans hx1,(hW.block _ (by omega)).trans hx2⟩
 obtain⟨y0,y1,y2,y3,y4,y5,y6,y7,y8,y9⟩:=yB hx1
 obtain⟨l0,l1,l2,l3,_⟩:=gA hx0
 clear f0 f1 f2 f3 i0 i1 i2 i3 hv hi h hok hit hsz hr hW3 hb3 hs3 hx0 hx1 hx2 hk
 go_enter Tryz.func20,Tryz.ntmps20
 go_upto_region 1 with fail
 rw[←HW3.out]
 go_wp2_with fail
 refine(HFi.out o.path W3 HOk.out.path HB3.out.1).mono ?_
 rintro e w4 ⟨hfo,hb4⟩
 have HB4:=aA hb4
 clear y0 y1 y2 y3 y4 y5 y6 y7 y8 y9 l0 l1 l2 l3 hb4
 cases hx:eA t (cA o.path) with
 |none=>
  rw[hx] at hfo
  have hfo:e=_:=hfo
  subst hfo
  have HR5:Hid (r=.bad 5):=by
   show _=_
   rw[HRr.out]
   unfold refC
   rw[if_neg (by have:=HK.out;omega),hx]
  clear hx
  obtain⟨W5,hW5⟩:∃W5,W5=w4.alloc (.cells #[.string ⟨#[]⟩,.string ⟨#[]⟩,.slice none 0 0,.slice none 0 0] rA):=⟨_,rfl⟩
  have HW5:=aA hW5
  have HB5:Hid (Below W3.heap.size W3 W5):=by show Below _ _ _;rw[hW5];exact HB4.out.alloc HB4.out.size _
  clear hW5
  go_upto_region 2 with fail
  rw[←HW5.out]
  obtain⟨hx0,hx1,hx2⟩:=HBx.out W5 HB5.out
  obtain⟨y0,y1,y2,y3,y4,y5,y6,y7,y8,y9⟩:=yB hx1
  obtain⟨l0,l1,l2,l3,_⟩:=gA hx0
  obtain⟨z0,z1,z2,z3,zf⟩:=gA hx2
  have HZ:=aA hx2
  clear hx0 hx1 hx2
  go_wp2
  refine bodyPost_ret (v:=.tuple #[.agg #[.string t.label,.string t.head,.slice la t.lines.length lc,.slice ka t.kids.length kc],.int .i64 5]) (fA Tryz.results20 _ _ (w.heap.size+2) rA #[.string t.label,.string t.head,.slice la t.lines.length lc,.slice ka t.kids.length kc] (0,0) _ _ rfl rfl (NA HZ.out) Tryz.underlying25 rfl rfl) rfl ?_
  rw[HR5.out]
  exact OneR.bad (HB3.out.1.trans (HB5.out.mono HB3.out.1.size)) (by omega) (by omega)
 |some x=>
  rw[hx] at hfo
  obtain⟨vx,rfl,hlx⟩:=hfo
  obtain⟨j0,j1,⟨ma,mc,j2⟩,na,nc,j3⟩:=hlx.forms
  have HLx:=aA (hlx.vals j0 j1 j2 j3)
  have HX:=aA hx
  rw[j0,j1,j2,j3]
  clear hx hlx j0 j1 j2 j3
  obtain⟨W5,hW5⟩:∃W5,W5=w4.alloc (.cells #[.string x.label,.string x.head,.slice ma x.lines.length mc,.slice na x.kids.length nc] rA):=⟨_,rfl⟩
  have HW5:=aA hW5
  have hb45:Below w4.heap.size w4 W5:=by rw[hW5];exact bA _ _
  have HB5:=aA (HB4.out.trans (hb45.mono HB4.out.size))
  have hy5:W5.heap[w4.heap.size]?=some (.cells #[.string x.label,.string x.head,.slice ma x.lines.length mc,.slice na x.kids.length nc] rA (0,0)):=by rw[hW5];exact heap_alloc_new _ _
  have hs5:W5.heap.size=w4.heap.size+1:=by rw[hW5];simp
  have h34:=HB4.out.size
  have h3s:=HB3.out.2
  have HT5:=aA (aI hb45 (aI hy5 (show w.heap.size+3≤w4.heap.size∧W5.heap.size=w4.heap.size+1 from⟨by omega,hs5⟩)))
  clear hW5 hb45 hs5 h34 h3s
  go_upto_region 2 with fail
  rw[←HW5.out]
  obtain⟨hx0,hx1,hx2⟩:=HBx.out W5 HB5.out
  obtain⟨y0,y1,y2,y3,y4,y5,y6,y7,y8,y9⟩:=yB hx1
  obtain⟨l0,l1,l2,l3,_⟩:=gA hx0
  obtain⟨z0,z1,z2,z3,zf⟩:=gA hx2
  obtain⟨e0,e1,e2,e3,ef⟩:=gA hy5
  have HZ:=aA hx2
  clear hx0 hx1 hx2 hy5
  have HRx:Hid (r=refPut t o x):=by
   show _=_
   rw[HRr.out]
   unfold refC
   rw[if_neg (by have:=HK.out;omega),HX.out]
   show (if o.kind≤5 then (match textC x o with| .bad c=>COut.bad c| .ok y=>.ok (JA o.path y t))
    else if o.kind=6 then refPut t o x
    else if o.path.size=0 then .bad 5
    else if o.kind=7 then .ok (refGone t o)
    else if o.kind=8 then refLab t o x
    else refMove t o x)=_
   rw[if_neg (by have:=HK.out;omega),if_pos HK.out]
  clear z0 z1 z2 z3 zf
  have hcl:Calls Tryz.prog 43 #[.agg #[.string t.label,.string t.head,.slice la t.lines.length lc,.slice ka t.kids.length kc],.agg #[.int .i64 6,.string o.path,.string o.at',.string o.text,.string o.new,.int .i64 o.line,.string o.item.label,.string o.item.head,.slice ja o.item.lines.length jc,.slice qa o.item.kids.length qc],.agg #[.string x.label,.string x.head,.slice ma x.lines.length mc,.slice na x.kids.length nc]] W5 (OneR W5 (fun q=>P q∧q<w.heap.size) (refPut t o x)):=by
   have hbwn:Below w.heap.size w W5:=HB3.out.1.trans (HB5.out.mono HB3.out.1.size)
   have hlt:Lies W5 (fun q=>P q∧q<w.heap.size) (wA (.string t.label) (.string t.head) (.slice la t.lines.length lc) (.slice ka t.kids.length kc)) t:=HLv.out.step fun b hb hp=>⟨hbwn.block b hb,hp⟩
   have hlx:Lies W5 (fun q=>P q∧q<w.heap.size) (wA (.string x.label) (.string x.head) (.slice ma x.lines.length mc) (.slice na x.kids.length nc)) x:=HLx.out.step fun b hb hp=>⟨HT5.out.1.block b hb,hp⟩
   have hli:Lies W5 (fun q=>P q∧q<w.heap.size) (wA (.string o.item.label) (.string o.item.head) (.slice ja o.item.lines.length jc) (.slice qa o.item.kids.length qc)) o.item:=HLi.out.step fun b hb hp=>⟨hbwn.block b hb,hp⟩
   have:=FQ HLaw.out HX.out (by have:=HOk.out.path;omega) HIt.out.1 HIt.out.2 hlt hlx hli
   unfold FB at this
   rw[HK.out] at this
   exact this
  have HCl:=aA hcl
  clear hcl
  go_wp2_with fail
  refine HCl.out.mono ?_
  rintro e wq ⟨hbq,sq,hq,laq,kaq,lnq,lcq,knq,kcq,code,rfl,hmq⟩
  rw[←HRx.out] at hmq
  have hzq:=(hbq.block (w.heap.size+2) (by have:=HT5.out.2.2;omega)).trans HZ.out
  obtain⟨z0,z1,z2,z3,zf⟩:=gA hzq
  have HZq:=aA hzq
  have HMq:=aA (aI hmq hbq)
  clear hzq hmq hbq
  go_wp2
  refine bodyPost_ret (v:=.tuple #[.agg #[.string sq,.string hq,.slice laq lnq lcq,.slice kaq knq kcq],.int .i64 code]) (fA Tryz.results20 _ _ (w.heap.size+2) rA #[.string sq,.string hq,.slice laq lnq lcq,.slice kaq knq kcq] (0,0) _ _ rfl rfl (NA HZq.out) Tryz.underlying25 rfl rfl) rfl ?_
  refine OneR.on (W:=W5) (a:=.string ⟨#[]⟩) (b:=.string ⟨#[]⟩) (c:=.slice none 0 0) (d:=.slice none 0 0) HMq.out.1 ((show Below w.heap.size w W5 from HB3.out.1.trans (HB5.out.mono HB3.out.1.size)).trans (HMq.out.2.mono (show Below w.heap.size w W5 from HB3.out.1.trans (HB5.out.mono HB3.out.1.size)).size)) (by omega) (by have:=HT5.out.2.2;omega) HZq.out
theorem rS{t:It}{o:OpW}(hk:o.kind=9)(h:UC t)(hok:OpOk o)(hit:FewIt o.item)(hsz:jA o.item≤400000){w:World}{P:Nat→Prop}{v iv:Nat→Value}(hv:Lies w P v t)(hi:Lies w P iv o.item):
 Calls Tryz.prog 20 #[.agg #[v 0,v 1,v 2,v 3],.agg (FB o iv)] w (OneR w P (refC t o)):=by
 obtain⟨f0,f1,⟨la,lc,f2⟩,ka,kc,f3⟩:=hv.forms
 obtain⟨i0,i1,⟨ja,jc,i2⟩,qa,qc,i3⟩:=hi.forms
 have HLv:=aA (hv.inn.vals f0 f1 f2 f3)
 have HLi:=aA (hi.inn.vals i0 i1 i2 i3)
 have HSz:=aA (sB h)
 have HOk:=aA hok
 have HIt:=aA (aI hit hsz)
 have HLaw:=aA h
 have HFi:Hid (∀s W,s.size≤6000→Below w.heap.size w W→Calls Tryz.prog 39 #[.agg #[.string t.label,.string t.head,.slice la t.lines.length lc,.slice ka t.kids.length kc],.string s] W fun e w'=>aG e w' (fun k=>P k∧k<w.heap.size) (eA t (cA s))∧Below W.heap.size W w'):=fun s W hs hW=>
  AB t s (by omega) (fun x hx=>by obtain⟨r,hr⟩:=hx;have:=KA (p:=r) h hr;omega) W _ (wA _ _ _ _) (HLv.out.bel hW)
 obtain⟨r,hr⟩:∃r,r=refC t o:=⟨_,rfl⟩
 have HRr:Hid (r=refC t o):=hr
 rw[←hr]
 have HK:Hid (o.kind=9):=hk
 unfold FB
 rw[f0,f1,f2,f3,i0,i1,i2,i3]
 rw[hk]
 obtain⟨W3,hW3,hb3,hs3,hx0,hx1,hx2⟩:=GC w (.cells #[.string t.label,.string t.head,.slice la t.lines.length lc,.slice ka t.kids.length kc] rA) (.cells #[.int .i64 9,.string o.path,.string o.at',.string o.text,.string o.new,.int .i64 o.line,.string o.item.label,.string o.item.head,.slice ja o.item.lines.length jc,.slice qa o.item.kids.length qc] 46) (.cells #[.string ⟨#[]⟩,.string ⟨#[]⟩,.slice none 0 0,.slice none 0 0] rA)
 have HW3:=aA hW3
 have HB3:=aA (aI hb3 hs3)
 have HBx:Hid (∀W,Below W3.heap.size W3 W→(W.heap[w.heap.size]?=some (.cells #[.string t.label,.string t.head,.slice la t.lines.length lc,.slice ka t.kids.length kc] rA (0,0))∧W.heap[w.heap.size+1]?=some (.cells #[.int .i64 9,.string o.path,.string o.at',.string o.text,.string o.new,.int .i64 o.line,.string o.item.label,.string o.item.head,.slice ja o.item.lines.length jc,.slice qa o.item.kids.length qc] 46 (0,0))∧W.heap[w.heap.size+2]?=some (.cells #[.string ⟨#[]⟩,.string ⟨#[]⟩,.slice none 0 0,.slice none 0 0] rA (0,0)))):=fun W hW=>
  ⟨(hW.block _ (by omega)).trans hx0,(hW.block _ (by omega)).trans hx1,(hW.block _ (by omega)).trans hx2⟩
 obtain⟨y0,y1,y2,y3,y4,y5,y6,y7,y8,y9⟩:=yB hx1
 obtain⟨l0,l1,l2,l3,_⟩:=gA hx0
 clear f0 f1 f2 f3 i0 i1 i2 i3 hv hi h hok hit hsz hr hW3 hb3 hs3 hx0 hx1 hx2 hk
 go_enter Tryz.func20,Tryz.ntmps20
 go_upto_region 1 with fail
 rw[←HW3.out]
 go_wp2_with fail
 refine(HFi.out o.path W3 HOk.out.path HB3.out.1).mono ?_
 rintro e w4 ⟨hfo,hb4⟩
 have HB4:=aA hb4
 clear y0 y1 y2 y3 y4 y5 y6 y7 y8 y9 l0 l1 l2 l3 hb4
 cases hx:eA t (cA o.path) with
 |none=>
  rw[hx] at hfo
  have hfo:e=_:=hfo
  subst hfo
  have HR5:Hid (r=.bad 5):=by
   show _=_
   rw[HRr.out]
   unfold refC
   rw[if_neg (by have:=HK.out;omega),hx]
  clear hx
  obtain⟨W5,hW5⟩:∃W5,W5=w4.alloc (.cells #[.string ⟨#[]⟩,.string ⟨#[]⟩,.slice none 0 0,.slice none 0 0] rA):=⟨_,rfl⟩
  have HW5:=aA hW5
  have HB5:Hid (Below W3.heap.size W3 W5):=by show Below _ _ _;rw[hW5];exact HB4.out.alloc HB4.out.size _
  clear hW5
  go_upto_region 2 with fail
  rw[←HW5.out]
  obtain⟨hx0,hx1,hx2⟩:=HBx.out W5 HB5.out
  obtain⟨y0,y1,y2,y3,y4,y5,y6,y7,y8,y9⟩:=yB hx1
  obtain⟨l0,l1,l2,l3,_⟩:=gA hx0
  obtain⟨z0,z1,z2,z3,zf⟩:=gA hx2
  have HZ:=aA hx2
  clear hx0 hx1 hx2
  go_wp2
  refine bodyPost_ret (v:=.tuple #[.agg #[.string t.label,.string t.head,.slice la t.lines.length lc,.slice ka t.kids.length kc],.int .i64 5]) (fA Tryz.results20 _ _ (w.heap.size+2) rA #[.string t.label,.string t.head,.slice la t.lines.length lc,.slice ka t.kids.length kc] (0,0) _ _ rfl rfl (NA HZ.out) Tryz.underlying25 rfl rfl) rfl ?_
  rw[HR5.out]
  exact OneR.bad (HB3.out.1.trans (HB5.out.mono HB3.out.1.size)) (by omega) (by omega)
 |some x=>
  rw[hx] at hfo
  obtain⟨vx,rfl,hlx⟩:=hfo
  obtain⟨j0,j1,⟨ma,mc,j2⟩,na,nc,j3⟩:=hlx.forms
  have HLx:=aA (hlx.vals j0 j1 j2 j3)
  have HX:=aA hx
  rw[j0,j1,j2,j3]
  clear hx hlx j0 j1 j2 j3
  obtain⟨W5,hW5⟩:∃W5,W5=w4.alloc (.cells #[.string x.label,.string x.head,.slice ma x.lines.length mc,.slice na x.kids.length nc] rA):=⟨_,rfl⟩
  have HW5:=aA hW5
  have hb45:Below w4.heap.size w4 W5:=by rw[hW5];exact bA _ _
  have HB5:=aA (HB4.out.trans (hb45.mono HB4.out.size))
  have hy5:W5.heap[w4.heap.size]?=some (.cells #[.string x.label,.string x.head,.slice ma x.lines.length mc,.slice na x.kids.length nc] rA (0,0)):=by rw[hW5];exact heap_alloc_new _ _
  have hs5:W5.heap.size=w4.heap.size+1:=by rw[hW5];simp
  have h34:=HB4.out.size
  have h3s:=HB3.out.2
  have HT5:=aA (aI hb45 (aI hy5 (show w.heap.size+3≤w4.heap.size∧W5.heap.size=w4.heap.size+1 from⟨by omega,hs5⟩)))
  clear hW5 hb45 hs5 h34 h3s
  go_upto_region 2 with fail
  rw[←HW5.out]
  obtain⟨hx0,hx1,hx2⟩:=HBx.out W5 HB5.out
  obtain⟨y0,y1,y2,y3,y4,y5,y6,y7,y8,y9⟩:=yB hx1
  obtain⟨l0,l1,l2,l3,_⟩:=gA hx0
  obtain⟨z0,z1,z2,z3,zf⟩:=gA hx2
  obtain⟨e0,e1,e2,e3,ef⟩:=gA hy5
  have HZ:=aA hx2
  clear hx0 hx1 hx2 hy5
  have HRx:Hid (r=if o.path.size=0 then .bad 5 else refMove t o x):=by
   show _=_
   rw[HRr.out]
   unfold refC
   rw[if_neg (by have:=HK.out;omega),HX.out]
   show (if o.kind≤5 then (match textC x o with| .bad c=>COut.bad c| .ok y=>.ok (JA o.path y t))
    else if o.kind=6 then refPut t o x
    else if o.path.size=0 then .bad 5
    else if o.kind=7 then .ok (refGone t o)
    else if o.kind=8 then refLab t o x
    else refMove t o x)=_
   rw[if_neg (by have:=HK.out;omega),if_neg (by have:=HK.out;omega)]
   by_cases h0:o.path.size=0
   ·rw[if_pos h0,if_pos h0]
   ·rw[if_neg h0,if_neg h0,if_neg (by have:=HK.out;omega),if_neg (by have:=HK.out;omega)]
  have hE9:=LB o.path
  by_cases hp0:o.path.size=0
  ·rw[decide_eq_true hp0] at hE9
   have HR5:Hid (r=.bad 5):=HRx.out.trans (if_pos hp0)
   clear hp0
   go_wp2
   refine bodyPost_ret (v:=.tuple #[.agg #[.string t.label,.string t.head,.slice la t.lines.length lc,.slice ka t.kids.length kc],.int .i64 5]) (fA Tryz.results20 _ _ (w.heap.size+2) rA #[.string t.label,.string t.head,.slice la t.lines.length lc,.slice ka t.kids.length kc] (0,0) _ _ rfl rfl (NA HZ.out) Tryz.underlying25 rfl rfl) rfl ?_
   rw[HR5.out]
   exact OneR.bad (HB3.out.1.trans (HB5.out.mono HB3.out.1.size)) (by omega) (by omega)
  rw[decide_eq_false hp0] at hE9
  have HRy:Hid (r=refMove t o x):=HRx.out.trans (if_neg hp0)
  have HP0:=aA hp0
  obtain⟨p0,l,x0,i0,hpe,h1,h2,h3,h4,har⟩:=VC HX.out (fB hp0).1
  obtain⟨q1,q2,q3⟩:=RC HLaw.out hpe h1
  have hlabs:∀s,s∈cA o.path→s.size≠0:=fun s hs=>YE (oE _ t x HLaw.out.1.rg HX.out s hs)
  have HUp:=aA (fun W=>XQ o.path (by have:=HOk.out.path;omega) hp0 hlabs W)
  have hos:(vB o.path).size≤6000:=by
   have h5:=fH (List.dropLast_prefix (cA o.path))
   have h6:(vB o.path).size=(fE (cA o.path).dropLast).length:=by unfold vB PN;rw[←oA,eB]
   have h7:=oC o.path
   have h8:o.path.size=(fE (cA o.path)).length:=by rw[←oA,←h7,eB,h7]
   have:=HOk.out.path
   omega
  have HFu:=aA (fun W hW=>HFi.out (vB o.path) W hos hW)
  have HAr:Hid (eA t (cA (vB o.path))=some x0∧x0.kids.length≤300):=⟨by rw[q1];exact h1,KA HLaw.out h1⟩
  obtain⟨pp,pr,hpp⟩:∃pp pr,cA o.path=pp::pr:=by
   cases hq:cA o.path with
   |nil=>exact absurd hq (fB hp0).1
   |cons a b=>exact⟨a,b,rfl⟩
  obtain⟨np,hnp⟩:∃np,np=pr.length+1:=⟨_,rfl⟩
  have HPa2:Hid (∀W,Calls Tryz.prog 44 #[.string o.path] W fun e w'=>(∃va vc,e=.returned (.slice va np vc)∧(WayIs w' va (pp::pr)∧∀(i:Nat) (s:ByteArray),(pp::pr)[i]?=some s→∀b o',va=some ⟨b,o',none⟩→W.heap.size≤b)∧np≤vc)∧Below W.heap.size W w'):=fun W=>by
   refine(wC o.path (by have:=HOk.out.path;omega) W).mono ?_
   rintro e w' ⟨⟨v,rfl,hrow⟩,hb⟩
   obtain⟨va,vc,rfl⟩:=tA hrow
   refine⟨⟨va,vc,by rw[hpp,List.length_cons,hnp],⟨?_,fun i s hs b o' e=>?_⟩,?_⟩,hb⟩
   ·rw[←hpp];exact iH hrow
   ·rw[←hpp] at hs
    obtain⟨g,e2,hg,_⟩:=LC hrow hs
    rw[e] at e2
    simp only[Option.some.injEq,Addr.mk.injEq] at e2
    obtain⟨rfl,_⟩:=e2
    exact hg
   ·have:=zB hrow;rw[hpp,List.length_cons] at this;omega
  have HPp:=aA (aI hpp hnp)
  have hprl:pr.length≤4194304:=by
   have:=jB o.path
   rw[hpp,List.length_cons] at this
   have:=HOk.out.path
   omega
  have HPl:=aA hprl
  clear hp0 hpe h1 h2 h3 h4 har q1 q2 q3 hlabs hos hpp hnp hprl
  go_wp2_with fail
  refine(HPa2.out W5).mono ?_
  rintro e w6 ⟨⟨va,vc,rfl,hway,hcap⟩,hb6⟩
  have HB6:=aA (HB5.out.trans (hb6.mono HB5.out.size))
  have hy6:=(hb6.block w4.heap.size (Array.getElem?_eq_some_iff.1 HT5.out.2.1).1).trans HT5.out.2.1
  have HT6:=aA (aI (HT5.out.1.trans (hb6.mono HT5.out.1.size)) (aI hy6 (aI hway.1 hcap)))
  have HWne:Hid (∀(i:Nat) (s:ByteArray),(pp::pr)[i]?=some s→∀o',va≠some ⟨w4.heap.size,o',none⟩):=fun i s hs o' e=>by
   have h1:=hway.2 i s hs _ _ e
   have h2:=(Array.getElem?_eq_some_iff.1 HT5.out.2.1).1
   omega
  clear y0 y1 y2 y3 y4 y5 y6 y7 y8 y9 l0 l1 l2 l3 z0 z1 z2 z3 zf e0 e1 e2 e3 ef hb6 hy6 hway hcap
  obtain⟨hx0,hx1,hx2⟩:=HBx.out w6 HB6.out
  obtain⟨y0,y1,y2,y3,y4,y5,y6,y7,y8,y9⟩:=yB hx1
  clear hx0 hx1 hx2
  go_wp2_with fail
  refine(HUp.out w6).mono ?_
  rintro e w7 ⟨rfl,hb7⟩
  have HB7:=aA (HB6.out.trans (hb7.mono HB6.out.size))
  have hy7:=(hb7.block w4.heap.size (Array.getElem?_eq_some_iff.1 HT6.out.2.1).1).trans HT6.out.2.1
  have HT7:=aA (aI (HT6.out.1.trans (hb7.mono HT6.out.1.size)) (aI hy7 (aI (HT6.out.2.2.1.on hb7) HT6.out.2.2.2)))
  clear y0 y1 y2 y3 y4 y5 y6 y7 y8 y9 hb7 hy7
  obtain⟨hx0,hx1,hx2⟩:=HBx.out w7 HB7.out
  obtain⟨l0,l1,l2,l3,_⟩:=gA hx0
  clear hx0 hx1 hx2
  have HF7:=aA (HFu.out w7 (HB3.out.1.trans (HB7.out.mono HB3.out.1.size)))
  generalize vB o.path=ou at *
  generalize nC o.path=lo at *
  go_wp2_with fail
  refine HF7.out.mono ?_
  rintro e w8 ⟨hf8,hb8⟩
  rw[HAr.out.1] at hf8
  obtain⟨v8,rfl,hl8⟩:=hf8
  obtain⟨j0,j1,⟨sa,sc,j2⟩,ta,tc,j3⟩:=hl8.forms
  have HL8:=aA (hl8.vals j0 j1 j2 j3)
  rw[j0,j1,j2,j3]
  clear hl8 j0 j1 j2 j3 l0 l1 l2 l3
  have HB8:=aA (HB7.out.trans (hb8.mono HB7.out.size))
  have hy8:=(hb8.block w4.heap.size (Array.getElem?_eq_some_iff.1 HT7.out.2.1).1).trans HT7.out.2.1
  have HT8:=aA (aI (HT7.out.1.trans (hb8.mono HT7.out.1.size)) (aI hy8 (aI (HT7.out.2.2.1.on hb8) HT7.out.2.2.2)))
  clear hb8 hy8
  obtain⟨W9,hW9⟩:∃W9,W9=w8.alloc (.cells #[.string x0.label,.string x0.head,.slice sa x0.lines.length sc,.slice ta x0.kids.length tc] rA):=⟨_,rfl⟩
  have HW9:=aA hW9
  have hb9:Below w8.heap.size w8 W9:=by rw[hW9];exact bA _ _
  have ha9:W9.heap[w8.heap.size]?=some (.cells #[.string x0.label,.string x0.head,.slice sa x0.lines.length sc,.slice ta x0.kids.length tc] rA (0,0)):=by rw[hW9];exact heap_alloc_new _ _
  have HB9:=aA (HB8.out.trans (hb9.mono HB8.out.size))
  have hy9:=(hb9.block w4.heap.size (Array.getElem?_eq_some_iff.1 HT8.out.2.1).1).trans HT8.out.2.1
  have HT9:=aA (aI (HT8.out.1.trans (hb9.mono HT8.out.1.size)) (aI hy9 (aI (HT8.out.2.2.1.on hb9) HT8.out.2.2.2)))
  have HA9:=aA (aI hb9 ha9)
  clear hW9 hb9
  go_upto_region 28 with fail
  rw[←HW9.out]
  obtain⟨hx0,hx1,hx2⟩:=HBx.out W9 HB9.out
  obtain⟨y0,y1,y2,y3,y4,y5,y6,y7,y8,y9⟩:=yB hx1
  obtain⟨l0,l1,l2,l3,_⟩:=gA hx0
  obtain⟨z0,z1,z2,z3,zf⟩:=gA hx2
  obtain⟨e0,e1,e2,e3,ef⟩:=gA hy9
  obtain⟨a0,a1,a2,a3,_⟩:=gA ha9
  have HZ9:=aA hx2
  clear hx0 hx1 hx2 hy9 ha9
  have HRx:=aA HRy.out
  clear z0 z1 z2 z3 zf a0 a1 a2 a3
  have hcl:Calls Tryz.prog 48 #[.agg #[.string t.label,.string t.head,.slice la t.lines.length lc,.slice ka t.kids.length kc],.agg #[.int .i64 9,.string o.path,.string o.at',.string o.text,.string o.new,.int .i64 o.line,.string o.item.label,.string o.item.head,.slice ja o.item.lines.length jc,.slice qa o.item.kids.length qc],.agg #[.string x.label,.string x.head,.slice ma x.lines.length mc,.slice na x.kids.length nc]] W9 (OneR W9 (fun q=>P q∧q<w.heap.size) (refMove t o x)):=by
   have hbwn:Below w.heap.size w W9:=HB3.out.1.trans (HB9.out.mono HB3.out.1.size)
   have hlt:Lies W9 (fun q=>P q∧q<w.heap.size) (wA (.string t.label) (.string t.head) (.slice la t.lines.length lc) (.slice ka t.kids.length kc)) t:=HLv.out.step fun b hb hp=>⟨hbwn.block b hb,hp⟩
   have hlx:Lies W9 (fun q=>P q∧q<w.heap.size) (wA (.string x.label) (.string x.head) (.slice ma x.lines.length mc) (.slice na x.kids.length nc)) x:=HLx.out.step fun b hb hp=>⟨HT9.out.1.block b hb,hp⟩
   have:=sQ (iv:=(wA (.string o.item.label) (.string o.item.head) (.slice ja o.item.lines.length jc) (.slice qa o.item.kids.length qc))) HLaw.out HX.out HP0.out (by have:=HOk.out.path;omega) (by have:=HOk.out.new;omega) rfl rfl rfl rfl hlt hlx
   unfold FB at this
   rw[HK.out] at this
   exact this
  have HCl:=aA hcl
  clear hcl
  go_wp2_with fail
  refine HCl.out.mono ?_
  rintro e wq ⟨hbq,sq,hq,laq,kaq,lnq,lcq,knq,kcq,code,rfl,hmq⟩
  rw[←HRx.out] at hmq
  have hzq:=(hbq.block (w.heap.size+2) (by have h1:=HT5.out.2.2;have h2:=HB9.out.size;have h3:=HB3.out.2;omega)).trans HZ9.out
  obtain⟨z0,z1,z2,z3,zf⟩:=gA hzq
  have HZq:=aA hzq
  have HMq:=aA (aI hmq hbq)
  clear hzq hmq hbq
  go_wp2
  refine bodyPost_ret (v:=.tuple #[.agg #[.string sq,.string hq,.slice laq lnq lcq,.slice kaq knq kcq],.int .i64 code]) (fA Tryz.results20 _ _ (w.heap.size+2) rA #[.string sq,.string hq,.slice laq lnq lcq,.slice kaq knq kcq] (0,0) _ _ rfl rfl (NA HZq.out) Tryz.underlying25 rfl rfl) rfl ?_
  refine OneR.on (W:=W9) (a:=.string ⟨#[]⟩) (b:=.string ⟨#[]⟩) (c:=.slice none 0 0) (d:=.slice none 0 0) HMq.out.1 ((show Below w.heap.size w W9 from HB3.out.1.trans (HB9.out.mono HB3.out.1.size)).trans (HMq.out.2.mono (show Below w.heap.size w W9 from HB3.out.1.trans (HB9.out.mono HB3.out.1.size)).size)) (by omega) (by have h1:=HT5.out.2.2;have h2:=HB9.out.size;have h3:=HB3.out.2;omega) HZq.out
theorem pS{t:It}{o:OpW}(hk:o.kind=7)(h:UC t)(hok:OpOk o)(hit:FewIt o.item)(hsz:jA o.item≤400000){w:World}{P:Nat→Prop}{v iv:Nat→Value}(hv:Lies w P v t)(hi:Lies w P iv o.item):
 Calls Tryz.prog 20 #[.agg #[v 0,v 1,v 2,v 3],.agg (FB o iv)] w (OneR w P (refC t o)):=by
 obtain⟨f0,f1,⟨la,lc,f2⟩,ka,kc,f3⟩:=hv.forms
 obtain⟨i0,i1,⟨ja,jc,i2⟩,qa,qc,i3⟩:=hi.forms
 have HLv:=aA (hv.inn.vals f0 f1 f2 f3)
 have HLi:=aA (hi.inn.vals i0 i1 i2 i3)
 have HSz:=aA (sB h)
 have HOk:=aA hok
 have HIt:=aA (aI hit hsz)
 have HLaw:=aA h
 have HFi:Hid (∀s W,s.size≤6000→Below w.heap.size w W→Calls Tryz.prog 39 #[.agg #[.string t.label,.string t.head,.slice la t.lines.length lc,.slice ka t.kids.length kc],.string s] W fun e w'=>aG e w' (fun k=>P k∧k<w.heap.size) (eA t (cA s))∧Below W.heap.size W w'):=fun s W hs hW=>
  AB t s (by omega) (fun x hx=>by obtain⟨r,hr⟩:=hx;have:=KA (p:=r) h hr;omega) W _ (wA _ _ _ _) (HLv.out.bel hW)
 obtain⟨r,hr⟩:∃r,r=refC t o:=⟨_,rfl⟩
 have HRr:Hid (r=refC t o):=hr
 rw[←hr]
 have HK:Hid (o.kind=7):=hk
 unfold FB
 rw[f0,f1,f2,f3,i0,i1,i2,i3]
 rw[hk]
 obtain⟨W3,hW3,hb3,hs3,hx0,hx1,hx2⟩:=GC w (.cells #[.string t.label,.string t.head,.slice la t.lines.length lc,.slice ka t.kids.length kc] rA) (.cells #[.int .i64 7,.string o.path,.string o.at',.string o.text,.string o.new,.int .i64 o.line,.string o.item.label,.string o.item.head,.slice ja o.item.lines.length jc,.slice qa o.item.kids.length qc] 46) (.cells #[.string ⟨#[]⟩,.string ⟨#[]⟩,.slice none 0 0,.slice none 0 0] rA)
 have HW3:=aA hW3
 have HB3:=aA (aI hb3 hs3)
 have HBx:Hid (∀W,Below W3.heap.size W3 W→(W.heap[w.heap.size]?=some (.cells #[.string t.label,.string t.head,.slice la t.lines.length lc,.slice ka t.kids.length kc] rA (0,0))∧W.heap[w.heap.size+1]?=some (.cells #[.int .i64 7,.string o.path,.string o.at',.string o.text,.string o.new,.int .i64 o.line,.string o.item.label,.string o.item.head,.slice ja o.item.lines.length jc,.slice qa o.item.kids.length qc] 46 (0,0))∧W.heap[w.heap.size+2]?=some (.cells #[.string ⟨#[]⟩,.string ⟨#[]⟩,.slice none 0 0,.slice none 0 0] rA (0,0)))):=fun W hW=>
  ⟨(hW.block _ (by omega)).trans hx0,(hW.block _ (by omega)).trans hx1,(hW.block _ (by omega)).trans hx2⟩
 obtain⟨y0,y1,y2,y3,y4,y5,y6,y7,y8,y9⟩:=yB hx1
 obtain⟨l0,l1,l2,l3,_⟩:=gA hx0
 clear f0 f1 f2 f3 i0 i1 i2 i3 hv hi h hok hit hsz hr hW3 hb3 hs3 hx0 hx1 hx2 hk
 go_enter Tryz.func20,Tryz.ntmps20
 go_upto_region 1 with fail
 rw[←HW3.out]
 go_wp2_with fail
 refine(HFi.out o.path W3 HOk.out.path HB3.out.1).mono ?_
 rintro e w4 ⟨hfo,hb4⟩
 have HB4:=aA hb4
 clear y0 y1 y2 y3 y4 y5 y6 y7 y8 y9 l0 l1 l2 l3 hb4
 cases hx:eA t (cA o.path) with
 |none=>
  rw[hx] at hfo
  have hfo:e=_:=hfo
  subst hfo
  have HR5:Hid (r=.bad 5):=by
   show _=_
   rw[HRr.out]
   unfold refC
   rw[if_neg (by have:=HK.out;omega),hx]
  clear hx
  obtain⟨W5,hW5⟩:∃W5,W5=w4.alloc (.cells #[.string ⟨#[]⟩,.string ⟨#[]⟩,.slice none 0 0,.slice none 0 0] rA):=⟨_,rfl⟩
  have HW5:=aA hW5
  have HB5:Hid (Below W3.heap.size W3 W5):=by show Below _ _ _;rw[hW5];exact HB4.out.alloc HB4.out.size _
  clear hW5
  go_upto_region 2 with fail
  rw[←HW5.out]
  obtain⟨hx0,hx1,hx2⟩:=HBx.out W5 HB5.out
  obtain⟨y0,y1,y2,y3,y4,y5,y6,y7,y8,y9⟩:=yB hx1
  obtain⟨l0,l1,l2,l3,_⟩:=gA hx0
  obtain⟨z0,z1,z2,z3,zf⟩:=gA hx2
  have HZ:=aA hx2
  clear hx0 hx1 hx2
  go_wp2
  refine bodyPost_ret (v:=.tuple #[.agg #[.string t.label,.string t.head,.slice la t.lines.length lc,.slice ka t.kids.length kc],.int .i64 5]) (fA Tryz.results20 _ _ (w.heap.size+2) rA #[.string t.label,.string t.head,.slice la t.lines.length lc,.slice ka t.kids.length kc] (0,0) _ _ rfl rfl (NA HZ.out) Tryz.underlying25 rfl rfl) rfl ?_
  rw[HR5.out]
  exact OneR.bad (HB3.out.1.trans (HB5.out.mono HB3.out.1.size)) (by omega) (by omega)
 |some x=>
  rw[hx] at hfo
  obtain⟨vx,rfl,hlx⟩:=hfo
  obtain⟨j0,j1,⟨ma,mc,j2⟩,na,nc,j3⟩:=hlx.forms
  have HLx:=aA (hlx.vals j0 j1 j2 j3)
  have HX:=aA hx
  rw[j0,j1,j2,j3]
  clear hx hlx j0 j1 j2 j3
  obtain⟨W5,hW5⟩:∃W5,W5=w4.alloc (.cells #[.string x.label,.string x.head,.slice ma x.lines.length mc,.slice na x.kids.length nc] rA):=⟨_,rfl⟩
  have HW5:=aA hW5
  have hb45:Below w4.heap.size w4 W5:=by rw[hW5];exact bA _ _
  have HB5:=aA (HB4.out.trans (hb45.mono HB4.out.size))
  have hy5:W5.heap[w4.heap.size]?=some (.cells #[.string x.label,.string x.head,.slice ma x.lines.length mc,.slice na x.kids.length nc] rA (0,0)):=by rw[hW5];exact heap_alloc_new _ _
  have hs5:W5.heap.size=w4.heap.size+1:=by rw[hW5];simp
  have h34:=HB4.out.size
  have h3s:=HB3.out.2
  have HT5:=aA (aI hb45 (aI hy5 (show w.heap.size+3≤w4.heap.size∧W5.heap.size=w4.heap.size+1 from⟨by omega,hs5⟩)))
  clear hW5 hb45 hs5 h34 h3s
  go_upto_region 2 with fail
  rw[←HW5.out]
  obtain⟨hx0,hx1,hx2⟩:=HBx.out W5 HB5.out
  obtain⟨y0,y1,y2,y3,y4,y5,y6,y7,y8,y9⟩:=yB hx1
  obtain⟨l0,l1,l2,l3,_⟩:=gA hx0
  obtain⟨z0,z1,z2,z3,zf⟩:=gA hx2
  obtain⟨e0,e1,e2,e3,ef⟩:=gA hy5
  have HZ:=aA hx2
  clear hx0 hx1 hx2 hy5
  have HRx:Hid (r=if o.path.size=0 then .bad 5 else (.ok (refGone t o))):=by
   show _=_
   rw[HRr.out]
   unfold refC
   rw[if_neg (by have:=HK.out;omega),HX.out]
   show (if o.kind≤5 then (match textC x o with| .bad c=>COut.bad c| .ok y=>.ok (JA o.path y t))
    else if o.kind=6 then refPut t o x
    else if o.path.size=0 then .bad 5
    else if o.kind=7 then .ok (refGone t o)
    else if o.kind=8 then refLab t o x
    else refMove t o x)=_
   rw[if_neg (by have:=HK.out;omega),if_neg (by have:=HK.out;omega)]
   by_cases h0:o.path.size=0
   ·rw[if_pos h0,if_pos h0]
   ·rw[if_neg h0,if_neg h0,if_pos HK.out]
  have hE9:=LB o.path
  by_cases hp0:o.path.size=0
  ·rw[decide_eq_true hp0] at hE9
   have HR5:Hid (r=.bad 5):=HRx.out.trans (if_pos hp0)
   clear hp0
   go_wp2
   refine bodyPost_ret (v:=.tuple #[.agg #[.string t.label,.string t.head,.slice la t.lines.length lc,.slice ka t.kids.length kc],.int .i64 5]) (fA Tryz.results20 _ _ (w.heap.size+2) rA #[.string t.label,.string t.head,.slice la t.lines.length lc,.slice ka t.kids.length kc] (0,0) _ _ rfl rfl (NA HZ.out) Tryz.underlying25 rfl rfl) rfl ?_
   rw[HR5.out]
   exact OneR.bad (HB3.out.1.trans (HB5.out.mono HB3.out.1.size)) (by omega) (by omega)
  rw[decide_eq_false hp0] at hE9
  have HRy:Hid (r=(.ok (refGone t o))):=HRx.out.trans (if_neg hp0)
  have HP0:=aA hp0
  obtain⟨p0,l,x0,i0,hpe,h1,h2,h3,h4,har⟩:=VC HX.out (fB hp0).1
  obtain⟨q1,q2,q3⟩:=RC HLaw.out hpe h1
  have hlabs:∀s,s∈cA o.path→s.size≠0:=fun s hs=>YE (oE _ t x HLaw.out.1.rg HX.out s hs)
  have HUp:=aA (fun W=>XQ o.path (by have:=HOk.out.path;omega) hp0 hlabs W)
  have hos:(vB o.path).size≤6000:=by
   have h5:=fH (List.dropLast_prefix (cA o.path))
   have h6:(vB o.path).size=(fE (cA o.path).dropLast).length:=by unfold vB PN;rw[←oA,eB]
   have h7:=oC o.path
   have h8:o.path.size=(fE (cA o.path)).length:=by rw[←oA,←h7,eB,h7]
   have:=HOk.out.path
   omega
  have HFu:=aA (fun W hW=>HFi.out (vB o.path) W hos hW)
  have HAr:Hid (eA t (cA (vB o.path))=some x0∧x0.kids.length≤300):=⟨by rw[q1];exact h1,KA HLaw.out h1⟩
  obtain⟨pp,pr,hpp⟩:∃pp pr,cA o.path=pp::pr:=by
   cases hq:cA o.path with
   |nil=>exact absurd hq (fB hp0).1
   |cons a b=>exact⟨a,b,rfl⟩
  obtain⟨np,hnp⟩:∃np,np=pr.length+1:=⟨_,rfl⟩
  have HPa2:Hid (∀W,Calls Tryz.prog 44 #[.string o.path] W fun e w'=>(∃va vc,e=.returned (.slice va np vc)∧(WayIs w' va (pp::pr)∧∀(i:Nat) (s:ByteArray),(pp::pr)[i]?=some s→∀b o',va=some ⟨b,o',none⟩→W.heap.size≤b)∧np≤vc)∧Below W.heap.size W w'):=fun W=>by
   refine(wC o.path (by have:=HOk.out.path;omega) W).mono ?_
   rintro e w' ⟨⟨v,rfl,hrow⟩,hb⟩
   obtain⟨va,vc,rfl⟩:=tA hrow
   refine⟨⟨va,vc,by rw[hpp,List.length_cons,hnp],⟨?_,fun i s hs b o' e=>?_⟩,?_⟩,hb⟩
   ·rw[←hpp];exact iH hrow
   ·rw[←hpp] at hs
    obtain⟨g,e2,hg,_⟩:=LC hrow hs
    rw[e] at e2
    simp only[Option.some.injEq,Addr.mk.injEq] at e2
    obtain⟨rfl,_⟩:=e2
    exact hg
   ·have:=zB hrow;rw[hpp,List.length_cons] at this;omega
  have HPp:=aA (aI hpp hnp)
  have hprl:pr.length≤4194304:=by
   have:=jB o.path
   rw[hpp,List.length_cons] at this
   have:=HOk.out.path
   omega
  have HPl:=aA hprl
  clear hp0 hpe h1 h2 h3 h4 har q1 q2 q3 hlabs hos hpp hnp hprl
  go_wp2_with fail
  refine(HPa2.out W5).mono ?_
  rintro e w6 ⟨⟨va,vc,rfl,hway,hcap⟩,hb6⟩
  have HB6:=aA (HB5.out.trans (hb6.mono HB5.out.size))
  have hy6:=(hb6.block w4.heap.size (Array.getElem?_eq_some_iff.1 HT5.out.2.1).1).trans HT5.out.2.1
  have HT6:=aA (aI (HT5.out.1.trans (hb6.mono HT5.out.1.size)) (aI hy6 (aI hway.1 hcap)))
  have HWne:Hid (∀(i:Nat) (s:ByteArray),(pp::pr)[i]?=some s→∀o',va≠some ⟨w4.heap.size,o',none⟩):=fun i s hs o' e=>by
   have h1:=hway.2 i s hs _ _ e
   have h2:=(Array.getElem?_eq_some_iff.1 HT5.out.2.1).1
   omega
  clear y0 y1 y2 y3 y4 y5 y6 y7 y8 y9 l0 l1 l2 l3 z0 z1 z2 z3 zf e0 e1 e2 e3 ef hb6 hy6 hway hcap
  obtain⟨hx0,hx1,hx2⟩:=HBx.out w6 HB6.out
  obtain⟨y0,y1,y2,y3,y4,y5,y6,y7,y8,y9⟩:=yB hx1
  clear hx0 hx1 hx2
  go_wp2_with fail
  refine(HUp.out w6).mono ?_
  rintro e w7 ⟨rfl,hb7⟩
  have HB7:=aA (HB6.out.trans (hb7.mono HB6.out.size))
  have hy7:=(hb7.block w4.heap.size (Array.getElem?_eq_some_iff.1 HT6.out.2.1).1).trans HT6.out.2.1
  have HT7:=aA (aI (HT6.out.1.trans (hb7.mono HT6.out.1.size)) (aI hy7 (aI (HT6.out.2.2.1.on hb7) HT6.out.2.2.2)))
  clear y0 y1 y2 y3 y4 y5 y6 y7 y8 y9 hb7 hy7
  obtain⟨hx0,hx1,hx2⟩:=HBx.out w7 HB7.out
  obtain⟨l0,l1,l2,l3,_⟩:=gA hx0
  clear hx0 hx1 hx2
  have HF7:=aA (HFu.out w7 (HB3.out.1.trans (HB7.out.mono HB3.out.1.size)))
  generalize vB o.path=ou at *
  generalize nC o.path=lo at *
  go_wp2_with fail
  refine HF7.out.mono ?_
  rintro e w8 ⟨hf8,hb8⟩
  rw[HAr.out.1] at hf8
  obtain⟨v8,rfl,hl8⟩:=hf8
  obtain⟨j0,j1,⟨sa,sc,j2⟩,ta,tc,j3⟩:=hl8.forms
  have HL8:=aA (hl8.vals j0 j1 j2 j3)
  rw[j0,j1,j2,j3]
  clear hl8 j0 j1 j2 j3 l0 l1 l2 l3
  have HB8:=aA (HB7.out.trans (hb8.mono HB7.out.size))
  have hy8:=(hb8.block w4.heap.size (Array.getElem?_eq_some_iff.1 HT7.out.2.1).1).trans HT7.out.2.1
  have HT8:=aA (aI (HT7.out.1.trans (hb8.mono HT7.out.1.size)) (aI hy8 (aI (HT7.out.2.2.1.on hb8) HT7.out.2.2.2)))
  clear hb8 hy8
  obtain⟨W9,hW9⟩:∃W9,W9=w8.alloc (.cells #[.string x0.label,.string x0.head,.slice sa x0.lines.length sc,.slice ta x0.kids.length tc] rA):=⟨_,rfl⟩
  have HW9:=aA hW9
  have hb9:Below w8.heap.size w8 W9:=by rw[hW9];exact bA _ _
  have ha9:W9.heap[w8.heap.size]?=some (.cells #[.string x0.label,.string x0.head,.slice sa x0.lines.length sc,.slice ta x0.kids.length tc] rA (0,0)):=by rw[hW9];exact heap_alloc_new _ _
  have HB9:=aA (HB8.out.trans (hb9.mono HB8.out.size))
  have hy9:=(hb9.block w4.heap.size (Array.getElem?_eq_some_iff.1 HT8.out.2.1).1).trans HT8.out.2.1
  have HT9:=aA (aI (HT8.out.1.trans (hb9.mono HT8.out.1.size)) (aI hy9 (aI (HT8.out.2.2.1.on hb9) HT8.out.2.2.2)))
  have HA9:=aA (aI hb9 ha9)
  clear hW9 hb9
  go_upto_region 28 with fail
  rw[←HW9.out]
  obtain⟨hx0,hx1,hx2⟩:=HBx.out W9 HB9.out
  obtain⟨y0,y1,y2,y3,y4,y5,y6,y7,y8,y9⟩:=yB hx1
  obtain⟨l0,l1,l2,l3,_⟩:=gA hx0
  obtain⟨z0,z1,z2,z3,zf⟩:=gA hx2
  obtain⟨e0,e1,e2,e3,ef⟩:=gA hy9
  obtain⟨a0,a1,a2,a3,_⟩:=gA ha9
  have HZ9:=aA hx2
  clear hx0 hx1 hx2 hy9 ha9
  have hrp:Calls Tryz.prog 46 #[.agg #[.string t.label,.string t.head,.slice la t.lines.length lc,.slice ka t.kids.length kc],.slice va np vc,.slice none 0 0] W9 (RpOut (fun q=>P q∧q<w.heap.size) W9 (refGone t o)):=by
   unfold refGone
   rw[HPp.out.1,HPp.out.2]
   have hbw:Below w.heap.size w W9:=HB3.out.1.trans (HB9.out.mono HB3.out.1.size)
   exact KF _ [] none 0 (fun _ _=>.nilIface) pr pp t (wA (.string t.label) (.string t.head) (.slice la t.lines.length lc) (.slice ka t.kids.length kc)) W9 va vc (HLv.out.step fun b hb hp=>⟨hbw.block b hb,hp⟩) HT9.out.2.2.1 (by have:=HT9.out.2.2.2;rw[HPp.out.2] at this;exact this) HPl.out ⟨by simp,fun i hi=>by simp at hi,fun i x hx=>by simp at hx⟩ (by have:=HSz.out;omega)
  have HRp:=aA hrp
  clear hrp z0 z1 z2 z3 zf a0 a1 a2 a3
  go_wp2_with fail
  refine HRp.out.mono ?_
  rintro e wq ⟨⟨vq,rfl,hlq⟩,hbq⟩
  obtain⟨k0,k1,⟨oa,oc,k2⟩,pa,pc,k3⟩:=hlq.forms
  have HLq:=aA (hlq.vals k0 k1 k2 k3)
  rw[k0,k1,k2,k3]
  have hzq:=(hbq.block (w.heap.size+2) (by have h1:=HT5.out.2.2;have h2:=HB9.out.size;have h3:=HB3.out.2;omega)).trans HZ9.out
  obtain⟨z0,z1,z2,z3,zf⟩:=gA hzq
  have HZq:=aA hzq
  have HBq:=aA hbq
  clear hzq hbq hlq k0 k1 k2 k3
  generalize refGone t o=U at *
  go_wp2
  refine bodyPost_ret (v:=.tuple #[.agg #[.string U.label,.string U.head,.slice oa U.lines.length oc,.slice pa U.kids.length pc],.int .i64 0]) (fA Tryz.results20 _ _ (w.heap.size+2) rA #[.string U.label,.string U.head,.slice oa U.lines.length oc,.slice pa U.kids.length pc] (0,0) _ _ rfl rfl (NA HZq.out) Tryz.underlying25 rfl rfl) rfl ?_
  rw[HRy.out]
  have hbw:Below w.heap.size w W9:=HB3.out.1.trans (HB9.out.mono HB3.out.1.size)
  refine OneR.ok (hbw.trans (HBq.out.mono hbw.size)) (by omega) (v':=wA (.string U.label) (.string U.head) (.slice oa U.lines.length oc) (.slice pa U.kids.length pc)) rfl (HLq.out.step fun b hb hp=>⟨rfl,hp.imp id fun h=>?_⟩)
  have h1:=HT5.out.2.2
  have h2:=HB9.out.size
  have h3:=HB3.out.2
  omega
theorem qS{t:It}{o:OpW}(hk:o.kind=8)(h:UC t)(hok:OpOk o)(hit:FewIt o.item)(hsz:jA o.item≤400000){w:World}{P:Nat→Prop}{v iv:Nat→Value}(hv:Lies w P v t)(hi:Lies w P iv o.item):
 Calls Tryz.prog 20 #[.agg #[v 0,v 1,v 2,v 3],.agg (FB o iv)] w (OneR w P (refC t o)):=by
 obtain⟨f0,f1,⟨la,lc,f2⟩,ka,kc,f3⟩:=hv.forms
 obtain⟨i0,i1,⟨ja,jc,i2⟩,qa,qc,i3⟩:=hi.forms
 have HLv:=aA (hv.inn.vals f0 f1 f2 f3)
 have HLi:=aA (hi.inn.vals i0 i1 i2 i3)
 have HSz:=aA (sB h)
 have HOk:=aA hok
 have HIt:=aA (aI hit hsz)
 have HLaw:=aA h
 have HFi:Hid (∀s W,s.size≤6000→Below w.heap.size w W→Calls Tryz.prog 39 #[.agg #[.string t.label,.string t.head,.slice la t.lines.length lc,.slice ka t.kids.length kc],.string s] W fun e w'=>aG e w' (fun k=>P k∧k<w.heap.size) (eA t (cA s))∧Below W.heap.size W w'):=fun s W hs hW=>
  AB t s (by omega) (fun x hx=>by obtain⟨r,hr⟩:=hx;have:=KA (p:=r) h hr;omega) W _ (wA _ _ _ _) (HLv.out.bel hW)
 obtain⟨r,hr⟩:∃r,r=refC t o:=⟨_,rfl⟩
 have HRr:Hid (r=refC t o):=hr
 rw[←hr]
 have HK:Hid (o.kind=8):=hk
 unfold FB
 rw[f0,f1,f2,f3,i0,i1,i2,i3]
 rw[hk]
 obtain⟨W3,hW3,hb3,hs3,hx0,hx1,hx2⟩:=GC w (.cells #[.string t.label,.string t.head,.slice la t.lines.length lc,.slice ka t.kids.length kc] rA) (.cells #[.int .i64 8,.string o.path,.string o.at',.string o.text,.string o.new,.int .i64 o.line,.string o.item.label,.string o.item.head,.slice ja o.item.lines.length jc,.slice qa o.item.kids.length qc] 46) (.cells #[.string ⟨#[]⟩,.string ⟨#[]⟩,.slice none 0 0,.slice none 0 0] rA)
 have HW3:=aA hW3
 have HB3:=aA (aI hb3 hs3)
 have HBx:Hid (∀W,Below W3.heap.size W3 W→(W.heap[w.heap.size]?=some (.cells #[.string t.label,.string t.head,.slice la t.lines.length lc,.slice ka t.kids.length kc] rA (0,0))∧W.heap[w.heap.size+1]?=some (.cells #[.int .i64 8,.string o.path,.string o.at',.string o.text,.string o.new,.int .i64 o.line,.string o.item.label,.string o.item.head,.slice ja o.item.lines.length jc,.slice qa o.item.kids.length qc] 46 (0,0))∧W.heap[w.heap.size+2]?=some (.cells #[.string ⟨#[]⟩,.string ⟨#[]⟩,.slice none 0 0,.slice none 0 0] rA (0,0)))):=fun W hW=>
  ⟨(hW.block _ (by omega)).trans hx0,(hW.block _ (by omega)).trans hx1,(hW.block _ (by omega)).trans hx2⟩
 obtain⟨y0,y1,y2,y3,y4,y5,y6,y7,y8,y9⟩:=yB hx1
 obtain⟨l0,l1,l2,l3,_⟩:=gA hx0
 clear f0 f1 f2 f3 i0 i1 i2 i3 hv hi h hok hit hsz hr hW3 hb3 hs3 hx0 hx1 hx2 hk
 go_enter Tryz.func20,Tryz.ntmps20
 go_upto_region 1 with fail
 rw[←HW3.out]
 go_wp2_with fail
 refine(HFi.out o.path W3 HOk.out.path HB3.out.1).mono ?_
 rintro e w4 ⟨hfo,hb4⟩
 have HB4:=aA hb4
 clear y0 y1 y2 y3 y4 y5 y6 y7 y8 y9 l0 l1 l2 l3 hb4
 cases hx:eA t (cA o.path) with
 |none=>
  rw[hx] at hfo
  have hfo:e=_:=hfo
  subst hfo
  have HR5:Hid (r=.bad 5):=by
   show _=_
   rw[HRr.out]
   unfold refC
   rw[if_neg (by have:=HK.out;omega),hx]
  clear hx
  obtain⟨W5,hW5⟩:∃W5,W5=w4.alloc (.cells #[.string ⟨#[]⟩,.string ⟨#[]⟩,.slice none 0 0,.slice none 0 0] rA):=⟨_,rfl⟩
  have HW5:=aA hW5
  have HB5:Hid (Below W3.heap.size W3 W5):=by show Below _ _ _;rw[hW5];exact HB4.out.alloc HB4.out.size _
  clear hW5
  go_upto_region 2 with fail
  rw[←HW5.out]
  obtain⟨hx0,hx1,hx2⟩:=HBx.out W5 HB5.out
  obtain⟨y0,y1,y2,y3,y4,y5,y6,y7,y8,y9⟩:=yB hx1
  obtain⟨l0,l1,l2,l3,_⟩:=gA hx0
  obtain⟨z0,z1,z2,z3,zf⟩:=gA hx2
  have HZ:=aA hx2
  clear hx0 hx1 hx2
  go_wp2
  refine bodyPost_ret (v:=.tuple #[.agg #[.string t.label,.string t.head,.slice la t.lines.length lc,.slice ka t.kids.length kc],.int .i64 5]) (fA Tryz.results20 _ _ (w.heap.size+2) rA #[.string t.label,.string t.head,.slice la t.lines.length lc,.slice ka t.kids.length kc] (0,0) _ _ rfl rfl (NA HZ.out) Tryz.underlying25 rfl rfl) rfl ?_
  rw[HR5.out]
  exact OneR.bad (HB3.out.1.trans (HB5.out.mono HB3.out.1.size)) (by omega) (by omega)
 |some x=>
  rw[hx] at hfo
  obtain⟨vx,rfl,hlx⟩:=hfo
  obtain⟨j0,j1,⟨ma,mc,j2⟩,na,nc,j3⟩:=hlx.forms
  have HLx:=aA (hlx.vals j0 j1 j2 j3)
  have HX:=aA hx
  rw[j0,j1,j2,j3]
  clear hx hlx j0 j1 j2 j3
  obtain⟨W5,hW5⟩:∃W5,W5=w4.alloc (.cells #[.string x.label,.string x.head,.slice ma x.lines.length mc,.slice na x.kids.length nc] rA):=⟨_,rfl⟩
  have HW5:=aA hW5
  have hb45:Below w4.heap.size w4 W5:=by rw[hW5];exact bA _ _
  have HB5:=aA (HB4.out.trans (hb45.mono HB4.out.size))
  have hy5:W5.heap[w4.heap.size]?=some (.cells #[.string x.label,.string x.head,.slice ma x.lines.length mc,.slice na x.kids.length nc] rA (0,0)):=by rw[hW5];exact heap_alloc_new _ _
  have hs5:W5.heap.size=w4.heap.size+1:=by rw[hW5];simp
  have h34:=HB4.out.size
  have h3s:=HB3.out.2
  have HT5:=aA (aI hb45 (aI hy5 (show w.heap.size+3≤w4.heap.size∧W5.heap.size=w4.heap.size+1 from⟨by omega,hs5⟩)))
  clear hW5 hb45 hs5 h34 h3s
  go_upto_region 2 with fail
  rw[←HW5.out]
  obtain⟨hx0,hx1,hx2⟩:=HBx.out W5 HB5.out
  obtain⟨y0,y1,y2,y3,y4,y5,y6,y7,y8,y9⟩:=yB hx1
  obtain⟨l0,l1,l2,l3,_⟩:=gA hx0
  obtain⟨z0,z1,z2,z3,zf⟩:=gA hx2
  obtain⟨e0,e1,e2,e3,ef⟩:=gA hy5
  have HZ:=aA hx2
  clear hx0 hx1 hx2 hy5
  have HRx:Hid (r=if o.path.size=0 then .bad 5 else refLab t o x):=by
   show _=_
   rw[HRr.out]
   unfold refC
   rw[if_neg (by have:=HK.out;omega),HX.out]
   show (if o.kind≤5 then (match textC x o with| .bad c=>COut.bad c| .ok y=>.ok (JA o.path y t))
    else if o.kind=6 then refPut t o x
    else if o.path.size=0 then .bad 5
    else if o.kind=7 then .ok (refGone t o)
    else if o.kind=8 then refLab t o x
    else refMove t o x)=_
   rw[if_neg (by have:=HK.out;omega),if_neg (by have:=HK.out;omega)]
   by_cases h0:o.path.size=0
   ·rw[if_pos h0,if_pos h0]
   ·rw[if_neg h0,if_neg h0,if_neg (by have:=HK.out;omega),if_pos HK.out]
  have hE9:=LB o.path
  by_cases hp0:o.path.size=0
  ·rw[decide_eq_true hp0] at hE9
   have HR5:Hid (r=.bad 5):=HRx.out.trans (if_pos hp0)
   clear hp0
   go_wp2
   refine bodyPost_ret (v:=.tuple #[.agg #[.string t.label,.string t.head,.slice la t.lines.length lc,.slice ka t.kids.length kc],.int .i64 5]) (fA Tryz.results20 _ _ (w.heap.size+2) rA #[.string t.label,.string t.head,.slice la t.lines.length lc,.slice ka t.kids.length kc] (0,0) _ _ rfl rfl (NA HZ.out) Tryz.underlying25 rfl rfl) rfl ?_
   rw[HR5.out]
   exact OneR.bad (HB3.out.1.trans (HB5.out.mono HB3.out.1.size)) (by omega) (by omega)
  rw[decide_eq_false hp0] at hE9
  have HRy:Hid (r=refLab t o x):=HRx.out.trans (if_neg hp0)
  have HP0:=aA hp0
  obtain⟨p0,l,x0,i0,hpe,h1,h2,h3,h4,har⟩:=VC HX.out (fB hp0).1
  obtain⟨q1,q2,q3⟩:=RC HLaw.out hpe h1
  have hlabs:∀s,s∈cA o.path→s.size≠0:=fun s hs=>YE (oE _ t x HLaw.out.1.rg HX.out s hs)
  have HUp:=aA (fun W=>XQ o.path (by have:=HOk.out.path;omega) hp0 hlabs W)
  have hos:(vB o.path).size≤6000:=by
   have h5:=fH (List.dropLast_prefix (cA o.path))
   have h6:(vB o.path).size=(fE (cA o.path).dropLast).length:=by unfold vB PN;rw[←oA,eB]
   have h7:=oC o.path
   have h8:o.path.size=(fE (cA o.path)).length:=by rw[←oA,←h7,eB,h7]
   have:=HOk.out.path
   omega
  have HFu:=aA (fun W hW=>HFi.out (vB o.path) W hos hW)
  have HAr:Hid (eA t (cA (vB o.path))=some x0∧x0.kids.length≤300):=⟨by rw[q1];exact h1,KA HLaw.out h1⟩
  obtain⟨pp,pr,hpp⟩:∃pp pr,cA o.path=pp::pr:=by
   cases hq:cA o.path with
   |nil=>exact absurd hq (fB hp0).1
   |cons a b=>exact⟨a,b,rfl⟩
  obtain⟨np,hnp⟩:∃np,np=pr.length+1:=⟨_,rfl⟩
  have HPa2:Hid (∀W,Calls Tryz.prog 44 #[.string o.path] W fun e w'=>(∃va vc,e=.returned (.slice va np vc)∧(WayIs w' va (pp::pr)∧∀(i:Nat) (s:ByteArray),(pp::pr)[i]?=some s→∀b o',va=some ⟨b,o',none⟩→W.heap.size≤b)∧np≤vc)∧Below W.heap.size W w'):=fun W=>by
   refine(wC o.path (by have:=HOk.out.path;omega) W).mono ?_
   rintro e w' ⟨⟨v,rfl,hrow⟩,hb⟩
   obtain⟨va,vc,rfl⟩:=tA hrow
   refine⟨⟨va,vc,by rw[hpp,List.length_cons,hnp],⟨?_,fun i s hs b o' e=>?_⟩,?_⟩,hb⟩
   ·rw[←hpp];exact iH hrow
   ·rw[←hpp] at hs
    obtain⟨g,e2,hg,_⟩:=LC hrow hs
    rw[e] at e2
    simp only[Option.some.injEq,Addr.mk.injEq] at e2
    obtain⟨rfl,_⟩:=e2
    exact hg
   ·have:=zB hrow;rw[hpp,List.length_cons] at this;omega
  have HPp:=aA (aI hpp hnp)
  have hprl:pr.length≤4194304:=by
   have:=jB o.path
   rw[hpp,List.length_cons] at this
   have:=HOk.out.path
   omega
  have HPl:=aA hprl
  clear hp0 hpe h1 h2 h3 h4 har q1 q2 q3 hlabs hos hpp hnp hprl
  go_wp2_with fail
  refine(HPa2.out W5).mono ?_
  rintro e w6 ⟨⟨va,vc,rfl,hway,hcap⟩,hb6⟩
  have HB6:=aA (HB5.out.trans (hb6.mono HB5.out.size))
  have hy6:=(hb6.block w4.heap.size (Array.getElem?_eq_some_iff.1 HT5.out.2.1).1).trans HT5.out.2.1
  have HT6:=aA (aI (HT5.out.1.trans (hb6.mono HT5.out.1.size)) (aI hy6 (aI hway.1 hcap)))
  have HWne:Hid (∀(i:Nat) (s:ByteArray),(pp::pr)[i]?=some s→∀o',va≠some ⟨w4.heap.size,o',none⟩):=fun i s hs o' e=>by
   have h1:=hway.2 i s hs _ _ e
   have h2:=(Array.getElem?_eq_some_iff.1 HT5.out.2.1).1
   omega
  clear y0 y1 y2 y3 y4 y5 y6 y7 y8 y9 l0 l1 l2 l3 z0 z1 z2 z3 zf e0 e1 e2 e3 ef hb6 hy6 hway hcap
  obtain⟨hx0,hx1,hx2⟩:=HBx.out w6 HB6.out
  obtain⟨y0,y1,y2,y3,y4,y5,y6,y7,y8,y9⟩:=yB hx1
  clear hx0 hx1 hx2
  go_wp2_with fail
  refine(HUp.out w6).mono ?_
  rintro e w7 ⟨rfl,hb7⟩
  have HB7:=aA (HB6.out.trans (hb7.mono HB6.out.size))
  have hy7:=(hb7.block w4.heap.size (Array.getElem?_eq_some_iff.1 HT6.out.2.1).1).trans HT6.out.2.1
  have HT7:=aA (aI (HT6.out.1.trans (hb7.mono HT6.out.1.size)) (aI hy7 (aI (HT6.out.2.2.1.on hb7) HT6.out.2.2.2)))
  clear y0 y1 y2 y3 y4 y5 y6 y7 y8 y9 hb7 hy7
  obtain⟨hx0,hx1,hx2⟩:=HBx.out w7 HB7.out
  obtain⟨l0,l1,l2,l3,_⟩:=gA hx0
  clear hx0 hx1 hx2
  have HF7:=aA (HFu.out w7 (HB3.out.1.trans (HB7.out.mono HB3.out.1.size)))
  go_wp2_with fail
  refine HF7.out.mono ?_
  rintro e w8 ⟨hf8,hb8⟩
  rw[HAr.out.1] at hf8
  obtain⟨v8,rfl,hl8⟩:=hf8
  obtain⟨j0,j1,⟨sa,sc,j2⟩,ta,tc,j3⟩:=hl8.forms
  have HL8:=aA (hl8.vals j0 j1 j2 j3)
  rw[j0,j1,j2,j3]
  clear hl8 j0 j1 j2 j3 l0 l1 l2 l3
  have HB8:=aA (HB7.out.trans (hb8.mono HB7.out.size))
  have hy8:=(hb8.block w4.heap.size (Array.getElem?_eq_some_iff.1 HT7.out.2.1).1).trans HT7.out.2.1
  have HT8:=aA (aI (HT7.out.1.trans (hb8.mono HT7.out.1.size)) (aI hy8 (aI (HT7.out.2.2.1.on hb8) HT7.out.2.2.2)))
  clear hb8 hy8
  obtain⟨W9,hW9⟩:∃W9,W9=w8.alloc (.cells #[.string x0.label,.string x0.head,.slice sa x0.lines.length sc,.slice ta x0.kids.length tc] rA):=⟨_,rfl⟩
  have HW9:=aA hW9
  have hb9:Below w8.heap.size w8 W9:=by rw[hW9];exact bA _ _
  have ha9:W9.heap[w8.heap.size]?=some (.cells #[.string x0.label,.string x0.head,.slice sa x0.lines.length sc,.slice ta x0.kids.length tc] rA (0,0)):=by rw[hW9];exact heap_alloc_new _ _
  have HB9:=aA (HB8.out.trans (hb9.mono HB8.out.size))
  have hy9:=(hb9.block w4.heap.size (Array.getElem?_eq_some_iff.1 HT8.out.2.1).1).trans HT8.out.2.1
  have HT9:=aA (aI (HT8.out.1.trans (hb9.mono HT8.out.1.size)) (aI hy9 (aI (HT8.out.2.2.1.on hb9) HT8.out.2.2.2)))
  have HA9:=aA (aI hb9 ha9)
  clear hW9 hb9
  go_upto_region 28 with fail
  rw[←HW9.out]
  obtain⟨hx0,hx1,hx2⟩:=HBx.out W9 HB9.out
  obtain⟨y0,y1,y2,y3,y4,y5,y6,y7,y8,y9⟩:=yB hx1
  obtain⟨l0,l1,l2,l3,_⟩:=gA hx0
  obtain⟨z0,z1,z2,z3,zf⟩:=gA hx2
  obtain⟨e0,e1,e2,e3,ef⟩:=gA hy9
  obtain⟨a0,a1,a2,a3,_⟩:=gA ha9
  have HZ9:=aA hx2
  clear hx0 hx1 hx2 hy9 ha9
  have HRl:Hid (r=if isLab o.text=false∨((iA x0.kids o.text).isSome∧o.text≠nC o.path) then .bad 7 else .ok (lB [x.setLabel o.text] (cA o.path) t)):=by
   show _=_
   rw[HRy.out]
   unfold refLab
   rw[HAr.out.1]
   rfl
  have HLab:=aA (fun W=>(NG o.text (by have:=HOk.out.text;omega) W).mono fun e w' h=>BO h)
  have HKo:Hid (∀s W,Below w8.heap.size w8 W→Calls Tryz.prog 47 #[.agg #[.string x0.label,.string x0.head,.slice sa x0.lines.length sc,.slice ta x0.kids.length tc],.string s] W fun e w'=>e=.returned (.int .i64 (mC (iA x0.kids s)))∧Below W.heap.size W w'):=fun s W hW=>
   DE (v:=wA _ _ _ _) (HL8.out.bel hW) (by have:=HAr.out.2;omega) s
  obtain⟨il,hil⟩:∃il,il=isLab o.text:=⟨_,rfl⟩
  obtain⟨q1,hq1⟩:∃q,q=iA x0.kids o.text:=⟨_,rfl⟩
  have HQ1:=aA hq1
  have hlb0:∃lb,(o.text.toList==(nC o.path).toList)=lb:=⟨_,rfl⟩
  obtain⟨lb,hlb⟩:=hlb0
  have HLb:Hid (lb=true↔o.text=nC o.path):=by show _↔_;rw[←hlb];exact same_bytes
  rw[←hil] at HLab
  rw[←hil,←hq1] at HRl
  obtain⟨B,hB⟩:∃B:Bool,B=(!il||(q1.isSome&&!lb)):=⟨_,rfl⟩
  have HRb:Hid (r=if B=true then .bad 7 else .ok (lB [x.setLabel o.text] (cA o.path) t)):=by
   show _=_
   rw[HRl.out]
   have e:(il=false∨(q1.isSome∧o.text≠nC o.path))↔B=true:=by
    rw[hB,Bool.or_eq_true,Bool.and_eq_true,Ne,←HLb.out]
    cases il<;>cases lb<;>simp
   by_cases hc:B=true
   ·rw[if_pos hc,if_pos (e.2 hc)]
   ·rw[if_neg hc,if_neg (fun h=>hc (e.1 h))]
  have HB:=aA hB
  clear hil hq1 hB HRl
  generalize vB o.path=ou at *
  generalize nC o.path=lo at *
  go_wp2_with fail
  refine(HLab.out W9).mono ?_
  rintro e w10 ⟨hb10,n10,u10,v10,rfl⟩
  have HB10:=aA (HB9.out.trans (hb10.mono HB9.out.size))
  have HA10:=aA (HA9.out.1.trans (hb10.mono HA9.out.1.size))
  have HT10:=aA (aI (HT9.out.1.trans (hb10.mono HT9.out.1.size)) (aI ((hb10.block w4.heap.size (Array.getElem?_eq_some_iff.1 HT9.out.2.1).1).trans HT9.out.2.1) (aI (HT9.out.2.2.1.on hb10) HT9.out.2.2.2)))
  have ha10:=(hb10.block w8.heap.size (Array.getElem?_eq_some_iff.1 HA9.out.2).1).trans HA9.out.2
  obtain⟨W11,hW11⟩:∃W11,W11=w10.alloc (.cells #[.int .i64 n10,.string u10,.string v10] 84):=⟨_,rfl⟩
  have HW11:=aA hW11
  have hb11:Below w10.heap.size w10 W11:=by rw[hW11];exact bA _ _
  have HB11:=aA (HB10.out.trans (hb11.mono HB10.out.size))
  have HA11:=aA (aI (HA10.out.trans (hb11.mono HA10.out.size)) ((hb11.block w8.heap.size (Array.getElem?_eq_some_iff.1 ha10).1).trans ha10))
  have HT11:=aA (aI (HT10.out.1.trans (hb11.mono HT10.out.1.size)) (aI ((hb11.block w4.heap.size (Array.getElem?_eq_some_iff.1 HT10.out.2.1).1).trans HT10.out.2.1) (aI (HT10.out.2.2.1.on hb11) HT10.out.2.2.2)))
  clear hW11 hb11 hb10 ha10
  clear y0 y1 y2 y3 y4 y5 y6 y7 y8 y9 l0 l1 l2 l3 z0 z1 z2 z3 zf e0 e1 e2 e3 ef a0 a1 a2 a3
  go_upto_region 32 with fail
  rw[←HW11.out]
  obtain⟨hx0,hx1,hx2⟩:=HBx.out W11 HB11.out
  obtain⟨y0,y1,y2,y3,y4,y5,y6,y7,y8,y9⟩:=yB hx1
  obtain⟨a0,a1,a2,a3,_⟩:=gA HA11.out.2
  clear hx0 hx1 hx2
  go_wp2_with fail
  refine(HKo.out o.text W11 HA11.out.1).mono ?_
  rintro e w12 ⟨rfl,hb12⟩
  rw[←HQ1.out]
  have HB12:=aA (HB11.out.trans (hb12.mono HB11.out.size))
  have hy12:=(hb12.block w4.heap.size (Array.getElem?_eq_some_iff.1 HT11.out.2.1).1).trans HT11.out.2.1
  have HT12:=aA (aI (HT11.out.1.trans (hb12.mono HT11.out.1.size)) (aI hy12 (aI (HT11.out.2.2.1.on hb12) HT11.out.2.2.2)))
  clear y0 y1 y2 y3 y4 y5 y6 y7 y8 y9 a0 a1 a2 a3 hb12
  obtain⟨hx0,hx1,hx2⟩:=HBx.out w12 HB12.out
  obtain⟨y0,y1,y2,y3,y4,y5,y6,y7,y8,y9⟩:=yB hx1
  obtain⟨l0,l1,l2,l3,_⟩:=gA hx0
  obtain⟨z0,z1,z2,z3,zf⟩:=gA hx2
  obtain⟨e0,e1,e2,e3,ef⟩:=gA hy12
  have HZ12:=aA hx2
  clear hx0 hx1 hx2 hy12
  go_upto_region 33 with fail
  go_cut [152] (fun q wx=>q=.bool B∧w12=wx)
  case first=>
   cases il with
   |false=>
    have hvB:Hid (B=true):=by show _=_;rw[HB.out];rfl
    generalize mC q1=iq at *
    go_wp2
    go_meet
    exact⟨by rw[hvB.out],rfl⟩
   |true=>
    cases q1 with
    |none=>
     have hvB:Hid (B=false):=by show _=_;rw[HB.out];rfl
     have hj:mC none=-1:=rfl
     rw[hj]
     go_wp2
     go_meet
     exact⟨by rw[hvB.out],rfl⟩
    |some j=>
     have hvB:Hid (B=!lb):=by show _=_;rw[HB.out];rfl
     have hj:mC (some j)=(j:Int):=rfl
     rw[hj]
     have hj0:(0:Int)≤(j:Int):=by omega
     clear hj
     cases lb with
     |false=>
      go_wp2
      go_meet
      exact⟨by rw[hvB.out];rfl,rfl⟩
     |true=>
      go_wp2
      go_meet
      exact⟨by rw[hvB.out];rfl,rfl⟩
  case rest=>
   obtain⟨rfl,rfl⟩:=hcut
   cases B with
   |true=>
    have HR7:Hid (r=.bad 7):=HRb.out.trans (if_pos rfl)
    go_wp2
    refine bodyPost_ret (v:=.tuple #[.agg #[.string t.label,.string t.head,.slice la t.lines.length lc,.slice ka t.kids.length kc],.int .i64 7]) (fA Tryz.results20 _ _ (w.heap.size+2) rA #[.string t.label,.string t.head,.slice la t.lines.length lc,.slice ka t.kids.length kc] (0,0) _ _ rfl rfl (NA HZ12.out) Tryz.underlying25 rfl rfl) rfl ?_
    rw[HR7.out]
    exact OneR.bad (HB3.out.1.trans (HB12.out.mono HB3.out.1.size)) (by omega) (by omega)
   |false=>
    have HR8:Hid (r=.ok (lB [x.setLabel o.text] (cA o.path) t)):=HRb.out.trans (if_neg (by decide))
    have hsz5:=HT5.out.2.2
    have h912:=HB12.out.size
    have hx12:Lies w12 (fun q=>P q∧q<w.heap.size) (wA (.string x.label) (.string x.head) (.slice ma x.lines.length mc) (.slice na x.kids.length nc)) x:=HLx.out.step fun b hb hp=>⟨HT12.out.1.block b hb,hp⟩
    obtain⟨W13,hW13⟩:∃W13,W13=w12.setCell ⟨w4.heap.size,0,none⟩ (.string o.text):=⟨_,rfl⟩
    have hf13:∀q,q≠w4.heap.size→W13.heap[q]?=w12.heap[q]?:=fun q hq=>by rw[hW13];exact Below.heap_setCell _ _ _ _ hq
    have hs13:W13.heap.size=w12.heap.size:=by rw[hW13];simp
    have hy13:W13.heap[w4.heap.size]?=some (.cells #[.string o.text,.string x.head,.slice ma x.lines.length mc,.slice na x.kids.length nc] rA (0,0)):=by rw[hW13,heap_setCell_same _ _ _ _ _ _ HT12.out.2.1];rfl
    obtain⟨W14,hW14⟩:∃W14,W14=W13.alloc (.cells #[.string o.text,.string x.head,.slice ma x.lines.length mc,.slice na x.kids.length nc] rA):=⟨_,rfl⟩
    have hf14:∀q,q<w12.heap.size→q≠w4.heap.size→W14.heap[q]?=w12.heap[q]?:=fun q hq hne=>by rw[hW14,Below.heap_alloc _ _ _ (by omega)];exact hf13 q hne
    have hn14:W14.heap[W13.heap.size]?=some (.cells #[.string o.text,.string x.head,.slice ma x.lines.length mc,.slice na x.kids.length nc] rA (0,0)):=by rw[hW14];exact heap_alloc_new _ _
    have hs14:W14.heap.size=w12.heap.size+1:=by rw[hW14];simp[hs13]
    have hbw12:Below w.heap.size w w12:=HB3.out.1.trans (HB12.out.mono HB3.out.1.size)
    have hbw13:Below w.heap.size w W13:=by rw[hW13];exact hbw12.setCell (by show w.heap.size≤w4.heap.size;omega) _
    have hbw14:Below w.heap.size w W14:=by rw[hW14];exact hbw13.alloc (by have:=hbw13.size;omega) _
    have hlx14:Lies W14 (fun q=>P q∧q<w.heap.size) (wA (.string o.text) (.string x.head) (.slice ma x.lines.length mc) (.slice na x.kids.length nc)) (x.setLabel o.text):=ML (hx12.step (P':=fun q=>P q∧q<w.heap.size) fun b hb hp=>⟨hf14 b hb (by have:=hp.2;omega),hp⟩) o.text
    have hway14:WayIs W14 va (pp::pr):=⟨fun i s hs=>by
     obtain⟨b,o',e,hlt,hc⟩:=HT12.out.2.2.1.at_ i s hs
     have hge:w.heap.size+3≤w4.heap.size:=hsz5.1
     refine⟨b,o',e,by omega,?_⟩
     by_cases hb:b=w4.heap.size
     ·exfalso
      subst hb
      exact HWne.out i s hs o' e
     ·exact(World.cell?_of_block (a:=⟨b,o'+i,none⟩) (hf14 b hlt hb)).trans hc⟩
    have hrp:Calls Tryz.prog 46 #[.agg #[.string t.label,.string t.head,.slice la t.lines.length lc,.slice ka t.kids.length kc],.slice va np vc,.slice (some ⟨W13.heap.size,0,none⟩) 1 1] W14 (RpOut (fun q=>P q∧q<w.heap.size) W14 (lB [x.setLabel o.text] (cA o.path) t)):=by
     rw[HPp.out.1,HPp.out.2]
     refine KF _ [x.setLabel o.text] (some ⟨W13.heap.size,0,none⟩) 1 (fun _=>wA (.string o.text) (.string x.head) (.slice ma x.lines.length mc) (.slice na x.kids.length nc)) pr pp t (wA (.string t.label) (.string t.head) (.slice la t.lines.length lc) (.slice ka t.kids.length kc)) W14 va vc (HLv.out.step fun b hb hp=>⟨hbw14.block b hb,hp⟩) hway14 (by have:=HT12.out.2.2.2;rw[HPp.out.2] at this;exact this) HPl.out ⟨by simp,fun i hi=>?_,fun i y hy=>?_⟩ (by have:=HSz.out;omega)
     ·have hi0:i=0:=by simpa using hi
      subst hi0
      refine⟨W13.heap.size,0,rfl,by omega,fun c hc=>?_⟩
      rw[cell_of_row _ _ _ _ _ _ hn14]
      match c,hc with
      |0,_=>rfl
      |1,_=>rfl
      |2,_=>rfl
      |3,_=>rfl
     ·match i,hy with
      |0,hy=>
       injection hy with hy
       rw[←hy]
       exact hlx14
    have HRp:=aA hrp
    have HW13:=aA hW13
    have HW14:=aA hW14
    have hz14:=(hf14 (w.heap.size+2) (by have:=HB3.out.2;omega) (by omega)).trans HZ12.out
    have hl14:=(hf14 w.heap.size (by have:=HB3.out.2;omega) (by omega)).trans (HBx.out w12 HB12.out).1
    have hy14:W13.heap[w.heap.size]?=some (.cells #[.string t.label,.string t.head,.slice la t.lines.length lc,.slice ka t.kids.length kc] rA (0,0)):=(hf13 w.heap.size (by omega)).trans (HBx.out w12 HB12.out).1
    have HB14:=aA (aI hbw14 (aI hz14 (show w.heap.size+2<W14.heap.size by have:=HB3.out.2;omega)))
    clear hx12 hW13 hf13 hs13 hW14 hf14 hn14 hs14 hbw12 hbw13 hbw14 hlx14 hway14 hrp hz14 hl14 h912 hsz5
    generalize lB [x.setLabel o.text] (cA o.path) t=U at *
    clear l0 l1 l2 l3
    go_upto_region 36 with fail
    rw[←HW13.out]
    clear y0 y1 y2 y3 y4 y5 y6 y7 y8 y9 z0 z1 z2 z3 zf e0 e1 e2 e3 ef
    obtain⟨l0,l1,l2,l3,_⟩:=gA hy14
    obtain⟨e0,e1,e2,e3,_⟩:=gA hy13
    clear hy14 hy13
    go_wp2_with fail
    rw[←HW14.out]
    refine HRp.out.mono ?_
    rintro e wq ⟨⟨vq,rfl,hlq⟩,hbq⟩
    obtain⟨k0,k1,⟨oa,oc,k2⟩,pa,pc,k3⟩:=hlq.forms
    have HLq:=aA (hlq.vals k0 k1 k2 k3)
    rw[k0,k1,k2,k3]
    have hzq:=(hbq.block (w.heap.size+2) HB14.out.2.2).trans HB14.out.2.1
    obtain⟨z0,z1,z2,z3,zf⟩:=gA hzq
    have HZq:=aA hzq
    have HBq:=aA hbq
    clear hzq hbq hlq k0 k1 k2 k3 l0 l1 l2 l3 e0 e1 e2 e3
    go_wp2
    refine bodyPost_ret (v:=.tuple #[.agg #[.string U.label,.string U.head,.slice oa U.lines.length oc,.slice pa U.kids.length pc],.int .i64 0]) (fA Tryz.results20 _ _ (w.heap.size+2) rA #[.string U.label,.string U.head,.slice oa U.lines.length oc,.slice pa U.kids.length pc] (0,0) _ _ rfl rfl (NA HZq.out) Tryz.underlying25 rfl rfl) rfl ?_
    rw[HR8.out]
    exact OneR.ok (HB14.out.1.trans (HBq.out.mono HB14.out.1.size)) (by omega) (v':=wA (.string U.label) (.string U.head) (.slice oa U.lines.length oc) (.slice pa U.kids.length pc)) rfl (HLq.out.step fun b hb hp=>⟨rfl,hp.imp id fun h=>by have:=HB14.out.2.2;omega⟩)
theorem OT{t:It}{o:OpW}(h:UC t)(hok:OpOk o)(hit:FewIt o.item)(hsz:jA o.item≤400000){w:World}{P:Nat→Prop}{v iv:Nat→Value}(hv:Lies w P v t)(hi:Lies w P iv o.item):
 Calls Tryz.prog 20 #[.agg #[v 0,v 1,v 2,v 3],.agg (FB o iv)] w (OneR w P (refC t o)):=by
 rcases (by omega:o.kind<1∨9<o.kind∨o.kind=1∨o.kind=2∨o.kind=3∨o.kind=4∨o.kind=5∨o.kind=6∨o.kind=7∨o.kind=8∨o.kind=9) with e|e|e|e|e|e|e|e|e|e|e
 ·exact VO e h hok hit hsz hv hi
 ·exact WO e h hok hit hsz hv hi
 ·exact jS e h hok hit hsz hv hi
 ·exact kS e h hok hit hsz hv hi
 ·exact lS e h hok hit hsz hv hi
 ·exact mS e h hok hit hsz hv hi
 ·exact nS e h hok hit hsz hv hi
 ·exact oS e h hok hit hsz hv hi
 ·exact pS e h hok hit hsz hv hi
 ·exact qS e h hok hit hsz hv hi
 ·exact rS e h hok hit hsz hv hi
end Go.Proofs.YtpbolcjcmkmalaaGreatDoor

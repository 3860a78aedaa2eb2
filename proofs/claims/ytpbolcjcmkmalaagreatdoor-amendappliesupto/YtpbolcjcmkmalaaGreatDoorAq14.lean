import Derived.Test.YtpbolcjcmkmalaaGreatDoorAq00
import Derived.Test.YtpbolcjcmkmalaaGreatDoorAq11
import Derived.Test.YtpbolcjcmkmalaaGreatDoorAq06
import Derived.Test.YtpbolcjcmkmalaaGreatDoorAq04
set_option maxHeartbeats 20000000
set_option maxRecDepth 20000
namespace Go.Proofs.YtpbolcjcmkmalaaGreatDoor
open Go.RowKit Go.Extern.Stop Go.Stop Go.Extern
theorem KN(a b:ByteArray)(ha:a.size≤100000000)(hb:b.size≤100000000)(w:World):
 Calls Tryz.prog 89 #[.string a,.string b] w fun e w'=>(∃s,e=.returned (.string s)∧s.size≤a.size+b.size+1)∧w'=w:=by
 have hE:=LB a
 by_cases h0:a.size=0
 ·rw[show decide (a.size=0)=true by simpa using h0] at hE
  clear h0
  go_enter Tryz.func89,Tryz.ntmps89
  go_wp2
  go_ret
  exact⟨⟨b,rfl,by omega⟩,rfl⟩
 ·rw[show decide (a.size=0)=false by simpa using h0] at hE
  have h1:(a++(⟨#[47]⟩:ByteArray)).size=a.size+1:=by rw[ByteArray.size_append];rfl
  have h2:((a++(⟨#[47]⟩:ByteArray))++b).size=a.size+b.size+1:=by rw[ByteArray.size_append,h1];omega
  have h3:(a.size:Int)+1≤9223372036854775807:=by omega
  have h4:(a.size:Int)+1+(b.size:Int)≤9223372036854775807:=by omega
  clear h0
  go_enter Tryz.func89,Tryz.ntmps89
  go_wp2
  go_ret
  exact⟨⟨_,rfl,by rw[h2];omega⟩,rfl⟩
theorem ZM(w:World)(x:Nat→Value):∀(j:Nat) (u:Value),[x 0,x 1,x 2,x 3,x 4,x 5,x 6,x 7][j]?=some u→(w.alloc (.cells #[x 0,x 1,x 2,x 3,x 4,x 5,x 6,x 7] 82)).cell? ((⟨w.heap.size,0,none⟩:Addr).add j)=some u:=by
 intro j u hj
 match j,hj with
 |0,hj=>simp at hj;subst hj;simp[Addr.add]
 |1,hj=>simp at hj;subst hj;simp[Addr.add]
 |2,hj=>simp at hj;subst hj;simp[Addr.add]
 |3,hj=>simp at hj;subst hj;simp[Addr.add]
 |4,hj=>simp at hj;subst hj;simp[Addr.add]
 |5,hj=>simp at hj;subst hj;simp[Addr.add]
 |6,hj=>simp at hj;subst hj;simp[Addr.add]
 |7,hj=>simp at hj;subst hj;simp[Addr.add]
def aR(a0 a1 a2 a3 a4 a5 a6 a7:Value):Nat→Value
 |0=>a0|1=>a1|2=>a2|3=>a3|4=>a4|5=>a5|6=>a6|_=>a7
theorem EK{w:World}{P:Nat→Prop}{v u:Nat→Value}{t:It}(h:Lies w P v t)(h0:u 0=v 0)(h1:u 1=v 1)(h2:u 2=v 2)(h3:u 3=v 3):Lies w P u t:=by
 cases h with
 |mk _ _ la ka lc kc V e0 e1 e2 e3 hl hk hr hlc hkc=>exact .mk u t la ka lc kc V (h0.trans e0) (h1.trans e1) (h2.trans e2) (h3.trans e3) hl hk hr hlc hkc
structure FLoop(B n0:Nat)(w wr:World)(sv:Value)(rows:List FRow)(V:Nat→Nat→Value)(a x c d:Value):Prop where
 bx:wr.heap[n0]?=some (.cells #[a,x,c,d] 25 (0,0))
 fa:FAt B wr sv rows V
 st:RStep B w wr
 sz:B≤wr.heap.size
theorem FLoop.on{B n0:Nat}{w wr wr':World}{sv sv':Value}{rows rows':List FRow}{V V':Nat→Nat→Value}{a x c d:Value}(h:FLoop B n0 w wr sv rows V a x c d)(hf:FAt B wr' sv' rows' V')(hs:RStep B wr wr'):FLoop B n0 w wr' sv' rows' V' a x c d:=
 ⟨(hs.kp n0 _ _ _ h.bx (by decide)).trans h.bx,hf,h.st.trans hs,Nat.le_trans h.sz hs.bel.size⟩
def wU(B:Nat)(w:World)(rows:List FRow)(e:Ending)(w':World):Prop:=∃sv V,e=.returned sv∧FAt B w' sv rows V∧RStep B w w'
set_option maxRecDepth 10000 in
theorem yF(B:Nat):∀(N:Nat) (t:It),jA t≤N→N≤4194304→∀(d:Nat) (v:Nat→Value) (w:World) (rows:List FRow) (sv:Value) (V:Nat→Nat→Value) (path:ByteArray),Lies w (fun k=>k<B) v t→FAt B w sv rows V→B≤w.heap.size→rows.length+lA t.kids≤16777216→path.size+lA t.kids≤16777216→d+lA t.kids≤16777216→
 Calls Tryz.prog 83 #[sv,.agg #[v 0,v 1,v 2,v 3],.string path,.int .i64 d] w (wU B w (rows++BA d 0 t.kids t.kids))
 |0,t,h,_,d,v,w,rows,sv,V,path,hL,hFA,hB,hrl,hpl,hdl=>by have:=uA t;omega
 |N+1,t,h,hN,d,v,w,rows,sv,V,path,hL,hFA,hB,hrl,hpl,hdl=>by
  have hst:=uA t
  have hkl:=kD t.kids
  obtain⟨i0,iz,hI⟩:=Tryz.infoRow
  have HI:=aA hI
  obtain⟨f0,f1,⟨la,lc,f2⟩,⟨ka,kc,f3⟩⟩:=hL.forms
  obtain⟨_,VK,hk,hr⟩:=hL.kidsAt f3
  have HIH:=aA (fun k (hk:k∈t.kids) d v w rows sv V path hL hFA hB h1 h2 h3=>yF B N k (by have:=rB hk;omega) (by omega) d v w rows sv V path hL hFA hB h1 h2 h3)
  have HK:=aA (aI hk hr)
  have HKS:=aA (fun k (hk:k∈t.kids)=>aI (rB hk) (lD hk))
  have HB0:=aA (show FLoop B w.heap.size w (w.alloc (.cells #[.string t.label,.string t.head,.slice la t.lines.length lc,.slice ka t.kids.length kc] 25)) sv rows V (.string t.label) (.string t.head) (.slice la t.lines.length lc) (.slice ka t.kids.length kc) from
   ⟨heap_alloc_new _ _,hFA.on hB (bA _ _),RStep.of hB (bA _ _),by simp;omega⟩)
  rw[f0,f1,f2,f3]
  clear hL hk hr f0 f1 f2 f3 hFA hI
  obtain⟨kn,hkn⟩:∃kn,kn=t.kids.length:=⟨_,rfl⟩
  rw[←hkn] at HB0
  rw[←hkn]
  have hknb:kn≤4194304:=by omega
  have HKn:=aA hkn
  have HSz:=aA (aI hrl (aI hpl hdl))
  have hdb:d≤16777216:=by omega
  have hpb:path.size≤16777216:=by omega
  have hts:jA t≤4194304:=by omega
  clear hkn hst hkl hrl hpl hdl h
  generalize t.label=lb at *
  generalize t.head=hh at *
  generalize t.lines.length=ln at *
  go_enter Tryz.func83,Tryz.ntmps83
  go_wp2_with fail
  obtain⟨w2,hw2⟩:∃w2,w2=w.alloc (.cells #[.string lb,.string hh,.slice la ln lc,.slice ka kn kc] 25):=⟨_,rfl⟩
  rw[←hw2] at HB0
  try simp only[←hw2]
  clear hw2
  go_loopw [0,9] (fun s y wr=>∃(j:Nat) (V':Nat→Nat→Value) (sa:Option Addr) (sc:Nat),j≤kn∧y=.int .i64 j∧s=.slice sa (rows++BA d 0 t.kids (t.kids.take j)).length sc∧FLoop B w.heap.size w wr s (rows++BA d 0 t.kids (t.kids.take j)) V' (.string lb) (.string hh) (.slice la ln lc) (.slice ka kn kc)) (fun _ y _=>(kn - RowKit.intOf y).toNat)
  case atStart=>
   obtain⟨sa,sc,hsv⟩:=tA HB0.out.fa.row
   exact⟨0,V,sa,sc,by omega,rfl,by rw[List.take_zero,BA,List.append_nil];exact hsv,by rw[List.take_zero,BA,List.append_nil];exact HB0.out⟩
  case round=>
   obtain⟨j,V',sa,sc,hj,rfl,rfl,hbx⟩:=hrel
   have HY:=aA hbx
   obtain⟨c0,c1,c2,c3,cf⟩:=gA hbx.bx
   clear hbx
   by_cases hin:j<kn
   ·have hjz:(j:Int)<kn:=by omega
    obtain⟨x,hx⟩:∃x,t.kids[j]?=some x:=⟨_,List.getElem?_eq_getElem (by rw[←HKn.out];exact hin)⟩
    obtain⟨g,o,hka,hgB,cx⟩:=HK.out.1 j (by rw[←HKn.out];exact hin)
    subst hka
    have hxm:=List.mem_of_getElem? hx
    have hxs:=HKS.out x hxm
    have HLx2:=aA (HK.out.2 j x hx)
    obtain⟨g0,g1,⟨pa,pc,g2⟩,⟨pk,pkc,g3⟩⟩:=HLx2.out.forms
    have y0:=(HY.out.st.bel.cell (p:=⟨g,o+j * 4,none⟩) hgB).trans (cx 0 (by omega))
    have y1:=(HY.out.st.bel.cell (p:=⟨g,o+j * 4+1,none⟩) hgB).trans (cx 1 (by omega))
    have y2:=(HY.out.st.bel.cell (p:=⟨g,o+j * 4+2,none⟩) hgB).trans (cx 2 (by omega))
    have y3:=(HY.out.st.bel.cell (p:=⟨g,o+j * 4+3,none⟩) hgB).trans (cx 3 (by omega))
    rw[g0] at y0
    rw[g1] at y1
    rw[g2] at y2
    rw[g3] at y3
    have HCx:Hid (w.cell? ⟨g,o+j * 4,none⟩=some (.string x.label)∧w.cell? ⟨g,o+j * 4+1,none⟩=some (.string x.head)∧w.cell? ⟨g,o+j * 4+2,none⟩=some (.slice pa x.lines.length pc)∧w.cell? ⟨g,o+j * 4+3,none⟩=some (.slice pk x.kids.length pkc)):=by
     show _∧_
     rw[←g0,←g1,←g2,←g3]
     exact⟨cx 0 (by omega),cx 1 (by omega),cx 2 (by omega),cx 3 (by omega)⟩
    have hxe:=uA x
    have htk:=SF t.kids j x hx
    have htl:=lE t.kids (j+1)
    have hfl:=yH d t.kids (t.kids.take j) 0
    obtain⟨R,hR⟩:∃R,R=rows++BA d 0 t.kids (t.kids.take j):=⟨_,rfl⟩
    have hRl:R.length≤rows.length+lA (t.kids.take j):=by rw[hR,List.length_append];omega
    have HRn:Hid (R++[⟨x,d,j,t.kids⟩]++BA (d+1) 0 x.kids x.kids=rows++BA d 0 t.kids (t.kids.take (j+1))):=by
     show _=_
     rw[iK d t.kids j x hx t.kids,tC,hR]
     simp
    rw[←hR] at HY
    rw[←hR]
    have hR1:R.length+1+lA x.kids≤16777216:=by have:=HSz.out.1;omega
    have hR2:R.length+1≤16777216:=by omega
    have hP1:path.size+x.label.size+1+lA x.kids≤16777216:=by have:=HSz.out.2.1;omega
    have hD1:(d+1)+lA x.kids≤16777216:=by have:=HSz.out.2.2;omega
    have hlx:x.label.size≤4194304:=by omega
    have HUn:=aA (fun w=>KN path x.label (by omega) (by omega) w)
    have HUp:Hid (∀k q,t.kids[k]?=some q→∃b o',(some ⟨g,o,none⟩:Option Addr)=some ⟨b,o',none⟩∧b<B∧w.cell? ⟨b,o'+k * 4,none⟩=some (.string q.label)):=fun k q hq=>by
     obtain⟨b',o',e1,e2,e3⟩:=HK.out.1 k (List.getElem?_eq_some_iff.1 hq).1
     refine⟨b',o',e1,e2,?_⟩
     have:=e3 0 (by omega)
     rw[(HK.out.2 k q hq).forms.1] at this
     exact this
    have HIx:=aA (fun w rows sv V path hFA hB h1 h2 hL=>HIH.out x hxm (d+1) (VK j) w rows sv V path hL hFA hB h1 h2 hD1)
    rw[g0,g1,g2,g3,show ((d+1:Nat):Int)=(d:Int)+1 by omega] at HIx
    have HLv:Hid (∀a4 a5 a6 a7:Value,Lies w (fun k=>k<B) (aR (.string x.label) (.string x.head) (.slice pa x.lines.length pc) (.slice pk x.kids.length pkc) a4 a5 a6 a7) x):=fun a4 a5 a6 a7=>EK HLx2.out g0.symm g1.symm g2.symm g3.symm
    clear cx g0 g1 g2 g3 hxm hxs hxe htk htl hfl hRl
    generalize x.label=xl at *
    generalize x.head=xh at *
    generalize x.lines.length=xn at *
    generalize hxk:x.kids.length=xk at *
    go_wp2_with fail
    go_at_call 89
    refine(HUn.out _).mono ?_
    rintro e w3 ⟨⟨np,rfl,hnp⟩,ew⟩
    subst w3
    have hBr:=HY.out.sz
    have HRw:Hid (RowAt B wr (aR (.string xl) (.string xh) (.slice pa xn pc) (.slice pk xk pkc) (.int .i64 d) (.string np) (.int .i64 j) (.slice (some ⟨g,o,none⟩) kn kc)) ⟨x,d,j,t.kids⟩):=
     RowAt.on ⟨HLv.out _ _ _ _,rfl,⟨np,rfl⟩,rfl,some ⟨g,o,none⟩,kc,by rw[←HKn.out];rfl,HUp.out⟩ HY.out.st.bel
    have HKD:Hid (∀W:World,(∀k,k<wr.heap.size→W.heap[k]?=wr.heap[k]?)→W.ownsRow B 82 8 (.slice sa R.length sc) R.length (WD V' R.length)):=fun W hW=>CA HY.out.fa.row fun k _ hk=>hW k hk
    have HNW:=aA (ZM wr.drew (aR (.string xl) (.string xh) (.slice pa xn pc) (.slice pk xk pkc) (.int .i64 d) (.string np) (.int .i64 j) (.slice (some ⟨g,o,none⟩) kn kc)))
    have HOC:Hid (∀u∈[Value.string xl,.string xh,.slice pa xn pc,.slice pk xk pkc,.int .i64 d,.string np,.int .i64 j,.slice (some ⟨g,o,none⟩) kn kc],u.oneCell'=true):=by
     intro u hu
     simp only[List.mem_cons,List.not_mem_nil,or_false] at hu
     rcases hu with rfl|rfl|rfl|rfl|rfl|rfl|rfl|rfl<;>rfl
    have HA:Hid (Below wr.heap.size wr (wr.drew.alloc (.cells #[.string xl,.string xh,.slice pa xn pc,.slice pk xk pkc,.int .i64 d,.string np,.int .i64 j,.slice (some ⟨g,o,none⟩) kn kc] 82))):=(Below.refl _ _).drew.alloc (nR _) _
    clear hx hR
    go_wp2_with fail
    go_region_law
     (refine nD rfl (.tmp 26) (.tmp 38) 79 rfl B 82 i0 iz 8 136 Tryz.underlying79 HI.out.1 HI.out.2.1 HI.out.2.2.1 HI.out.2.2.2.1 HI.out.2.2.2.2 (by decide) (.slice sa R.length sc) R.length (WD V' R.length) (by first|(simp[Act.eval];done)|simp[Act.eval,Act.put]) (HKD.out _ (fun k hk=>Below.heap_alloc wr.drew _ k hk)) ⟨wr.heap.size,0,none⟩ 1 1 [.string xl,.string xh,.slice pa xn pc,.slice pk xk pkc,.int .i64 d,.string np,.int .i64 j,.slice (some ⟨g,o,none⟩) kn kc] (by first|(simp[Act.eval];done)|simp[Act.eval,Act.put]) rfl HNW.out HOC.out (by decide) (by unfold maxLen;omega) (by omega) (by simp;omega) ?_
      intro v' w' ho hg hw
      obtain⟨va,vc,hv'⟩:=tA ho
      subst hv'
      have HP:=aA (HY.out.fa.push hBr HA.out _ ⟨x,d,j,t.kids⟩ ho hg HRw.out)
      have HL2:=aA (HY.out.on HP.out.1 HP.out.2)
      clear ho hg hw)
    all_goals
     clear c0 c1 c2 c3 cf y0 y1 y2 y3
     obtain⟨c0,c1,c2,c3,cf⟩:=gA HL2.out.bx
     have y0:=(HP.out.2.bel.cell (p:=⟨g,o+j * 4,none⟩) hgB).trans ((HY.out.st.bel.cell (p:=⟨g,o+j * 4,none⟩) hgB).trans HCx.out.1)
     have y1:=(HP.out.2.bel.cell (p:=⟨g,o+j * 4+1,none⟩) hgB).trans ((HY.out.st.bel.cell (p:=⟨g,o+j * 4+1,none⟩) hgB).trans HCx.out.2.1)
     have y2:=(HP.out.2.bel.cell (p:=⟨g,o+j * 4+2,none⟩) hgB).trans ((HY.out.st.bel.cell (p:=⟨g,o+j * 4+2,none⟩) hgB).trans HCx.out.2.2.1)
     have y3:=(HP.out.2.bel.cell (p:=⟨g,o+j * 4+3,none⟩) hgB).trans ((HY.out.st.bel.cell (p:=⟨g,o+j * 4+3,none⟩) hgB).trans HCx.out.2.2.2)
     have hdw:(d:Int)+1≤9223372036854775807:=by omega
     go_wp2_with fail
     go_at_call 83
     refine(HIx.out _ _ _ _ np HL2.out.fa HL2.out.sz (by rw[List.length_append,List.length_singleton];omega) (by omega) (HLx2.out.step fun q _ hq=>⟨HL2.out.st.bel.block q hq,hq⟩)).mono ?_
     rintro e w8 ⟨sv8,V8,rfl,hF8,hS8⟩
     obtain⟨R9,hR9⟩:∃R9,R9=rows++BA d 0 t.kids (t.kids.take (j+1)):=⟨_,rfl⟩
     rw[HRn.out,←hR9] at hF8
     obtain⟨ua,uc,rfl⟩:=tA hF8.row
     have HX8:=aA (HL2.out.on hF8 hS8)
     have HR9:=aA hR9
     clear hF8 hS8 hR9
     go_wp2
     go_roundw
     case rel=>exact⟨j+1,V8,ua,uc,by omega,by go_num,by rw[←HR9.out],by rw[←HR9.out];exact HX8.out⟩
     case measure=>simp[RowKit.intOf];omega
   ·obtain rfl:j=kn:=by omega
    have hjz:¬(j:Int)<j:=by omega
    have hall:t.kids.take j=t.kids:=List.take_of_length_le (by rw[←HKn.out];exact nR _)
    rw[hall] at HY
    rw[hall]
    obtain⟨R,hR⟩:∃R,R=rows++BA d 0 t.kids t.kids:=⟨_,rfl⟩
    rw[←hR] at HY
    rw[←hR]
    have HR:=aA hR
    clear hR hall
    go_wp2
    go_ret
    exact⟨_,V',rfl,by rw[←HR.out];exact HY.out.fa,HY.out.st⟩
def QS(w:World)(rows:List FRow)(e:Ending)(w':World):Prop:=∃a cap V,e=.returned (.slice a rows.length cap)∧FAt w.heap.size w' (.slice a rows.length cap) rows V∧Below w.heap.size w w'
theorem qO(t:It)(hsz:jA t≤4194304)(w:World)(P:Nat→Prop)(v:Nat→Value)(hL:Lies w P v t):
 Calls Tryz.prog 36 #[.agg #[v 0,v 1,v 2,v 3]] w (QS w (NB 0 0 [] t)):=by
 obtain⟨f0,f1,⟨la,lc,f2⟩,⟨ka,kc,f3⟩⟩:=hL.forms
 have hLB:Lies w (fun k=>k<w.heap.size) v t:=hL.step fun b hb _=>⟨rfl,hb⟩
 have hse:=uA t
 obtain⟨W1,hW1⟩:∃W1,W1=w.alloc (.cells #[.string t.label,.string t.head,.slice la t.lines.length lc,.slice ka t.kids.length kc] 25):=⟨_,rfl⟩
 have hb1:Below w.heap.size w W1:=by rw[hW1];exact bA _ _
 have hx1:W1.heap[w.heap.size]?=some (.cells #[.string t.label,.string t.head,.slice la t.lines.length lc,.slice ka t.kids.length kc] 25 (0,0)):=by rw[hW1];exact heap_alloc_new _ _
 obtain⟨W2,hW2⟩:∃W2,W2=W1.alloc (.cells #[.string t.label,.string t.head,.slice la t.lines.length lc,.slice ka t.kids.length kc,.int .i64 0,.string ⟨#[]⟩,.int .i64 0,.slice none 0 0] 82):=⟨_,rfl⟩
 have hb12:Below W1.heap.size W1 W2:=by rw[hW2];exact bA _ _
 have hr2:W2.heap[W1.heap.size]?=some (.cells #[.string t.label,.string t.head,.slice la t.lines.length lc,.slice ka t.kids.length kc,.int .i64 0,.string ⟨#[]⟩,.int .i64 0,.slice none 0 0] 82 (0,0)):=by rw[hW2];exact heap_alloc_new _ _
 have hs1:=hb1.size
 have hx2:=(hb12.block w.heap.size (lt_of_block hx1)).trans hx1
 have hb2:Below w.heap.size w W2:=hb1.trans (hb12.mono hs1)
 have hFA:FAt w.heap.size W2 (.slice (some ⟨W1.heap.size,0,none⟩) 1 1) [⟨t,0,0,[]⟩] (fun _=>aR (.string t.label) (.string t.head) (.slice la t.lines.length lc) (.slice ka t.kids.length kc) (.int .i64 0) (.string ⟨#[]⟩) (.int .i64 0) (.slice none 0 0)):=by
  refine⟨⟨rfl,.inr ⟨W1.heap.size,1,_,rfl,hs1,hr2,nR 1,by decide,rfl,rfl⟩⟩,fun i r e=>?_⟩
  match i,e with
  |0,e=>
   obtain rfl:(⟨t,0,0,[]⟩:FRow)=r:=by simpa using e
   refine RowAt.on ⟨EK hLB ?_ ?_ ?_ ?_,rfl,⟨_,rfl⟩,rfl,none,0,rfl,fun k x h=>by cases h⟩ hb2
   ·exact f0.symm
   ·exact f1.symm
   ·exact f2.symm
   ·exact f3.symm
 have HC:=aA (yF w.heap.size _ t (nR _) hsz 1 v W2 [⟨t,0,0,[]⟩] _ _ ⟨#[]⟩ (hLB.step fun q _ hq=>⟨hb2.block q hq,hq⟩) hFA (Nat.le_trans hs1 hb12.size) (by simp only[List.length_cons,List.length_nil];omega) (by show 0+_≤_;omega) (by omega))
 rw[f0,f1,f2,f3] at HC
 rw[f0,f1,f2,f3]
 have HR:Hid ([⟨t,0,0,[]⟩]++BA 1 0 t.kids t.kids=NB 0 0 [] t):=(tC 0 0 [] t).symm
 rw[HR.out] at HC
 have HB2:=aA hb2
 have HW2:=aA hW2
 have HW1:=aA hW1
 obtain⟨x0,x1,x2,x3,xf⟩:=gA hx1
 obtain⟨z0,z1,z2,z3,zf⟩:=gA hx2
 clear hL hLB hse hb1 hx1 hb12 hr2 hs1 hx2 hb2 hFA f0 f1 f2 f3 hW1 hW2 hsz
 generalize NB 0 0 [] t=R at *
 generalize t.label=l0 at *
 generalize t.head=l1 at *
 generalize t.lines.length=l2 at *
 generalize t.kids.length=l3 at *
 go_enter Tryz.func36,Tryz.ntmps36
 go_upto_region 1 with fail
 rw[←HW1.out]
 go_upto_region 2 with fail
 rw[←HW2.out]
 go_wp2_with fail
 go_at_call 83
 refine HC.out.mono ?_
 rintro e w4 ⟨sv,V,rfl,hF,hS⟩
 obtain⟨a,cap,rfl⟩:=tA hF.row
 have HF:=aA hF
 have HB:=aA (HB2.out.trans hS.bel)
 clear hF hS
 go_wp2
 go_ret
 exact⟨a,cap,V,rfl,HF.out,HB.out⟩
end Go.Proofs.YtpbolcjcmkmalaaGreatDoor

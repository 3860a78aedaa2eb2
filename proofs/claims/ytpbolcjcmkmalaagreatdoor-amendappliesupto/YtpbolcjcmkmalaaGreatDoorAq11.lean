import Derived.Test.YtpbolcjcmkmalaaGreatDoorAq00
import Derived.Test.YtpbolcjcmkmalaaGreatDoorAq07
import Derived.Test.YtpbolcjcmkmalaaGreatDoorAq06
import Derived.Test.YtpbolcjcmkmalaaGreatDoorAq01
import Derived.Lib.SliceRun
set_option maxHeartbeats 20000000
set_option maxRecDepth 20000
namespace Go.Proofs.YtpbolcjcmkmalaaGreatDoor
open Go.RowKit Go.Extern.Stop Go.Stop Go.Extern
theorem lJ(ls:List ByteArray)(la:Option Addr)(lc:Nat)(w:World)(hn:ls.length≤100000)(hL:∀s∈ls,s.size≤1000000)(hk:∀i s,ls[i]?=some s→∃b o,la=some ⟨b,o,none⟩∧w.cell? ⟨b,o+i,none⟩=some (.string s)):
 Calls Tryz.prog 61 #[.slice la ls.length lc] w fun e w'=>e=.returned (.bool (!(ls.any badB)))∧Below w.heap.size w w':=by
 have HC:=aA (YP ls la lc w hn hL hk)
 clear hk hL
 generalize ls.length=n at *
 generalize ls.any badB=an at *
 go_enter Tryz.func61,Tryz.ntmps61
 go_wp2_with fail
 refine HC.out.mono ?_
 rintro e w1 ⟨rfl,hb1⟩
 have HB:=aA hb1
 clear hb1
 go_wp2
 go_ret
 exact⟨rfl,HB.out⟩
theorem FH(t:It)(hF:FewIt t)(v:Nat→Value)(w:World)(P:Nat→Prop)(hL:Lies w P v t):
 Calls Tryz.prog 58 #[.agg #[v 0,v 1,v 2,v 3]] w fun e w'=>e=.returned (.bool (OB t))∧Below w.heap.size w w':=by
 obtain⟨k1,k2,k3,k4,k5,_⟩:=hF.get
 obtain⟨f0,f1,⟨la,lc,f2⟩,⟨ka,kc,f3⟩⟩:=hL.forms
 have hb:Below w.heap.size w (w.alloc (.cells #[v 0,v 1,v 2,v 3] 25)):=bA _ _
 rw[f0,f1,f2,f3] at hb
 have hl2:∀i s,t.lines[i]?=some s→∃b o,la=some ⟨b,o,none⟩∧(w.alloc (.cells #[.string t.label,.string t.head,.slice la t.lines.length lc,.slice ka t.kids.length kc] 25)).cell? ⟨b,o+i,none⟩=some (.string s):=fun i s h=>by
  obtain⟨b,o,e1,_,e3⟩:=(hL.linesIn f2).2 i s h
  exact⟨b,o,e1,(hb.cell (p:=⟨b,o+i,none⟩) (dA e3)).trans e3⟩
 have HH:=aA (JO t.lines la lc _ (by omega) k3 hl2)
 have HL1:=aA (fun w=>TI t.head k4 w)
 rw[f0,f1,f2,f3]
 clear hL hl2 f0 f1 f2 f3 k3 k4 k5 hF
 have HG:Hid (OB t=(decide (40<t.lines.length)||(iB t.head||t.lines.any iB))):=rfl
 have h40:decide (40<t.lines.length)=decide ((40:Int)<(t.lines.length:Int)):=by rw[decide_eq_decide];omega
 rw[h40] at HG
 generalize t.label=lb at *
 generalize t.kids.length=kn at *
 generalize OB t=g at *
 generalize t.lines.any iB=la2 at *
 generalize iB t.head=lh at *
 generalize t.head=hd at *
 generalize t.lines.length=ln at *
 clear h40
 have HBx:=aA hb
 clear hb
 by_cases hc:(40:Int)<(ln:Int)
 ·have hcd:decide ((40:Int)<(ln:Int))=true:=decide_eq_true hc
  rw[hcd] at HG
  go_enter Tryz.func58,Tryz.ntmps58
  go_wp2
  go_ret
  exact⟨rC (by rw[HG.out];rfl),HBx.out⟩
 ·have hcd:decide ((40:Int)<(ln:Int))=false:=decide_eq_false hc
  rw[hcd] at HG
  cases lh
  ·go_enter Tryz.func58,Tryz.ntmps58
   go_wp2_with fail
   go_at_call 97
   refine(HL1.out _).mono ?_
   rintro e w1 ⟨rfl,ew⟩
   subst w1
   go_wp2_with fail
   go_at_call 98
   refine HH.out.mono ?_
   rintro e w1 ⟨rfl,hb1⟩
   have HB1:=aA (HBx.out.trans (hb1.mono (by simp)))
   clear hb1
   go_wp2
   go_ret
   exact⟨rC (by rw[HG.out];rfl),HB1.out⟩
  ·go_enter Tryz.func58,Tryz.ntmps58
   go_wp2_with fail
   go_at_call 97
   refine(HL1.out _).mono ?_
   rintro e w1 ⟨rfl,ew⟩
   subst w1
   go_wp2
   go_ret
   exact⟨rC (by rw[HG.out];rfl),HBx.out⟩
structure AheadAt(w:World)(P:Nat→Prop)(aa:Option Addr)(ah:List It)(V:Nat→Nat→Value):Prop where
 hk:∀i,i<ah.length→∃b o,aa=some ⟨b,o,none⟩∧P b∧∀c,c<4→w.cell? ⟨b,o+i * 4+c,none⟩=some (V i c)
 hr:∀i k,ah[i]?=some k→Lies w P (V i) k
theorem AheadAt.on{w w':World}{P:Nat→Prop}{aa:Option Addr}{ah:List It}{V:Nat→Nat→Value}(h:AheadAt w P aa ah V)(hb:∀b,b<w.heap.size→P b→w'.heap[b]?=w.heap[b]?):AheadAt w' P aa ah V where
 hk:=fun i hi=>by
  obtain⟨b,o,h1,h2,h3⟩:=h.hk i hi
  exact⟨b,o,h1,h2,fun c hc=>(World.cell?_of_block (a:=⟨b,o+i * 4+c,none⟩) (hb b (dA (h3 0 (by omega))) h2)).trans (h3 c hc)⟩
 hr:=fun i k e=>(h.hr i k e).step fun b hb' hp=>⟨hb b hb' hp,hp⟩
theorem QM{w:World}{P:Nat→Prop}{aa:Option Addr}{ah:List It}{V:Nat→Nat→Value}(h:AheadAt w P aa ah V)(s:ByteArray):(∃i,i<ah.length∧((WG (V i 0)).toList==s.toList)=true)↔(ah.any fun k=>k.label.toList==s.toList)=true:=by
 have:=AO (t:=It.mk ⟨#[]⟩ ⟨#[]⟩ [] ah) h.hr s
 exact this.symm
theorem rJ(t:It)(hF:FewIt t)(d:Nat)(hd:d≤1000)(v:Nat→Value)(w:World)(P Q:Nat→Prop)(hL:Lies w P v t)(aa:Option Addr)(ac:Nat)(ah:List It)(V:Nat→Nat→Value)(hA:AheadAt w Q aa ah V)(hn:ah.length≤1000)(hT:Lib.Utf8Tabs 13 14 w):
 Calls Tryz.prog 59 #[.agg #[v 0,v 1,v 2,v 3],.int .i64 d,.slice aa ah.length ac] w fun e w'=>e=.returned (.bool (labelOk d ah t))∧Below w.heap.size w w':=by
 obtain⟨k1,k2,k3,k4,k5,_⟩:=hF.get
 obtain⟨f0,f1,⟨la,lc,f2⟩,⟨ka,kc,f3⟩⟩:=hL.forms
 have HO:Hid (labelOk d ah t=if d=0 then decide (t.label.size=0) else isLab t.label&&!(ah.any fun k=>k.label.toList==t.label.toList)):=rfl
 have hE:=LB t.label
 have HLb:=aA (fun w hT=>MG t.label k5 w hT)
 have HA:=aA hA
 have HT:=aA hT
 have HLd:Hid (∀W,Below w.heap.size w W→Calls Tryz.prog 99 #[.slice aa ah.length ac,.string t.label] W fun e w'=>(∃k:Int,e=.returned (.int .i64 k)∧-1≤k∧(0≤k↔(ah.any fun k=>k.label.toList==t.label.toList)=true))∧Below W.heap.size W w'):=fun W hW=>by
  have hA2:=hA.on (w':=W) (fun b hb _=>hW.block b hb)
  refine(xJ ah.length aa ac _ _ _ _ _ _ _ _ t.label W (by omega) (NH hA2.hk hA2.hr)).mono ?_
  rintro e w' ⟨⟨k,h1,h2,h3⟩,h4⟩
  exact⟨⟨k,h1,h2,h3.trans (QM hA2 t.label)⟩,h4⟩
 rw[f0,f1,f2,f3]
 clear hL f0 f1 f2 f3 hF k1 k2 k3 k4 hA hT
 generalize labelOk d ah t=O at *
 generalize (ah.any fun k=>k.label.toList==t.label.toList)=an at *
 generalize isLab t.label=il at *
 generalize t.label=lb at *
 generalize t.head=hd2 at *
 generalize t.lines.length=ln at *
 generalize t.kids.length=kn at *
 generalize ah.length=an2 at *
 have HBx:Hid (Below w.heap.size w (w.alloc (.cells #[.string lb,.string hd2,.slice la ln lc,.slice ka kn kc] 25))):=bA _ _
 by_cases h0:d=0
 ·subst h0
  rw[if_pos rfl] at HO
  generalize decide (lb.size=0)=z0 at *
  go_enter Tryz.func59,Tryz.ntmps59
  go_wp2
  go_ret
  exact⟨rC HO.out.symm,HBx.out⟩
 ·rw[if_neg h0] at HO
  have h0z:((d:Int)==0)=false:=by rw[beq_eq_false_iff_ne];omega
  have HLb2:=aA (HLb.out (w.alloc (.cells #[.string lb,.string hd2,.slice la ln lc,.slice ka kn kc] 25)) (xC HT.out HBx.out))
  clear hE
  cases il
  ·go_enter Tryz.func59,Tryz.ntmps59
   go_wp2_with fail
   go_at_call 80
   refine HLb2.out.mono ?_
   rintro e w1 ⟨rfl,hb1⟩
   have HB1:=aA (HBx.out.trans (hb1.mono (by simp)))
   clear hb1
   go_wp2
   go_ret
   exact⟨rC (by rw[HO.out];rfl),HB1.out⟩
  ·go_enter Tryz.func59,Tryz.ntmps59
   go_wp2_with fail
   go_at_call 80
   refine HLb2.out.mono ?_
   rintro e w1 ⟨rfl,hb1⟩
   have y0:w1.cell? ⟨w.heap.size,0,none⟩=some (.string lb):=(hb1.cell (p:=⟨w.heap.size,0,none⟩) (by simp)).trans (by simp)
   have HB1:=aA (HBx.out.trans (hb1.mono (by simp)))
   clear hb1
   go_wp2_with fail
   go_at_call 99
   refine(HLd.out _ HB1.out).mono ?_
   rintro e w2 ⟨⟨k,rfl,hk1,hk2⟩,hb2⟩
   have HB2:=aA (HB1.out.trans (hb2.mono HB1.out.size))
   have HR:Hid (decide (k<0)=!an):=by
    show _=_
    cases an
    ·exact decide_eq_true (by rcases Int.lt_or_le k 0 with h|h;exact h;exact absurd (hk2.1 h) (by decide))
    ·exact decide_eq_false (by have:=hk2.2 rfl;omega)
   clear hb2 hk2
   go_wp2
   go_ret
   exact⟨rC (by rw[HO.out,←HR.out];rfl),HB2.out⟩
theorem Tryz.infoRow:∃i z,Tryz.prog.info? 82=some i∧i.zero=some z∧i.size=8∧i.bytes=136∧z.cells.size=8:=by
 have h:(Tryz.prog.info? 82).map (fun i=>(i.zero.map (fun z=>z.cells.size),i.size,i.bytes))=some (some 8,8,136):=by kernel_rfl
 obtain⟨i,hi,e⟩:=Option.map_eq_some_iff.1 h
 injection e with e1 e2
 injection e2 with e2 e3
 obtain⟨z,hz,e4⟩:=Option.map_eq_some_iff.1 e1
 exact⟨i,z,hi,hz,e2,e3,e4⟩
def WD(V:Nat→Nat→Value)(n:Nat):List Value:=(List.range (n * 8)).map fun q=>V (q / 8) (q % 8)
theorem yE(V:Nat→Nat→Value)(n:Nat):(WD V n).length=n * 8:=by unfold WD;simp
theorem xE(V:Nat→Nat→Value)(n j c:Nat)(hj:j<n)(hc:c<8):(WD V n)[j * 8+c]?=some (V j c):=by
 unfold WD
 rw[List.getElem?_map,List.getElem?_range (by omega)]
 simp only[Option.map_some,Option.some.injEq]
 rw[show (j * 8+c) / 8=j by omega,show (j * 8+c) % 8=c by omega]
theorem EL(V:Nat→Nat→Value)(n:Nat)(x:Nat→Value):WD V n++[x 0,x 1,x 2,x 3,x 4,x 5,x 6,x 7]=WD (mD V n x) (n+1):=by
 apply List.ext_getElem?
 intro q
 rcases Nat.lt_or_ge q (n * 8) with h|h
 ·rw[List.getElem?_append_left (by rw[yE];exact h)]
  have e:q=q / 8 * 8+q % 8:=by omega
  rw[e,xE _ _ _ _ (by omega) (by omega),xE _ _ _ _ (by omega) (by omega)]
  unfold mD
  rw[if_neg (by omega)]
 ·rw[List.getElem?_append_right (by rw[yE];exact h),yE]
  rcases Nat.lt_or_ge q ((n+1) * 8) with h2|h2
  ·obtain⟨c,hc⟩:∃c,c=q - n * 8:=⟨_,rfl⟩
   have e:q=n * 8+c:=by omega
   rw[e,xE _ _ _ _ (by omega) (by omega)]
   unfold mD
   rw[if_pos rfl,show n * 8+c - n * 8=c by omega]
   have:c<8:=by omega
   match c,this with
   |0,_=>rfl
   |1,_=>rfl
   |2,_=>rfl
   |3,_=>rfl
   |4,_=>rfl
   |5,_=>rfl
   |6,_=>rfl
   |7,_=>rfl
  ·rw[List.getElem?_eq_none (by simp;omega),List.getElem?_eq_none (by rw[yE];exact h2)]
structure RowAt(B:Nat)(w:World)(c:Nat→Value)(r:FRow):Prop where
 it:Lies w (fun k=>k<B) c r.item
 dp:c 4=.int .i64 r.deep
 pa:∃s,c 5=.string s
 nt:c 6=.int .i64 r.nth
 up:∃ua uc,c 7=.slice ua r.up.length uc∧∀k x,r.up[k]?=some x→∃b o,ua=some ⟨b,o,none⟩∧b<B∧w.cell? ⟨b,o+k * 4,none⟩=some (.string x.label)
theorem RowAt.on{B:Nat}{w w':World}{c:Nat→Value}{r:FRow}(h:RowAt B w c r)(hb:Below B w w'):RowAt B w' c r where
 it:=h.it.step fun b _ hp=>⟨hb.block b hp,hp⟩
 dp:=h.dp
 pa:=h.pa
 nt:=h.nt
 up:=by
  obtain⟨ua,uc,h1,h2⟩:=h.up
  refine⟨ua,uc,h1,fun k x hx=>?_⟩
  obtain⟨b,o,e1,e2,e3⟩:=h2 k x hx
  exact⟨b,o,e1,e2,(hb.cell (p:=⟨b,o+k * 4,none⟩) e2).trans e3⟩
structure FAt(B:Nat)(w:World)(sv:Value)(rows:List FRow)(V:Nat→Nat→Value):Prop where
 row:w.ownsRow B 82 8 sv rows.length (WD V rows.length)
 each:∀i r,rows[i]?=some r→RowAt B w (V i) r
structure RStep(B:Nat)(w w':World):Prop where
 bel:Below B w w'
 kp:∀(k:Nat) cs T fr,w.heap[k]?=some (.cells cs T fr)→T≠82→w'.heap[k]?=w.heap[k]?
theorem RStep.trans{B:Nat}{w w' w'':World}(h:RStep B w w')(h':RStep B w' w''):RStep B w w'':=
 ⟨h.bel.trans h'.bel,fun k cs T fr hc hT=>(h'.kp k cs T fr ((h.kp k cs T fr hc hT).trans hc) hT).trans (h.kp k cs T fr hc hT)⟩
theorem RStep.of{B:Nat}{w w':World}(hw:B≤w.heap.size)(h:Below w.heap.size w w'):RStep B w w':=
 ⟨h.mono hw,fun k _ _ _ hc _=>h.block k (lt_of_block hc)⟩
theorem FAt.on{B:Nat}{w w':World}{sv:Value}{rows:List FRow}{V:Nat→Nat→Value}(h:FAt B w sv rows V)(hw:B≤w.heap.size)(hb:Below w.heap.size w w'):FAt B w' sv rows V:=
 ⟨CA h.row fun g _ hg=>hb.block g hg,fun i r e=>(h.each i r e).on (hb.mono hw)⟩
theorem FAt.push{B:Nat}{w w1 w2:World}{sv sv':Value}{rows:List FRow}{V:Nat→Nat→Value}(h:FAt B w sv rows V)(hw:B≤w.heap.size)(ha:Below w.heap.size w w1)(x:Nat→Value)(r:FRow)
 (ho:w2.ownsRow B 82 8 sv' (rows.length+1) (WD V rows.length++[x 0,x 1,x 2,x 3,x 4,x 5,x 6,x 7])) (hg:w1.grownBy w2 sv.ownBlock) (hr:RowAt B w x r):
 FAt B w2 sv' (rows++[r]) (mD V rows.length x)∧RStep B w w2:=by
 have hs1:B≤w1.heap.size:=Nat.le_trans hw ha.size
 have hrow1:w1.ownsRow B 82 8 sv rows.length (WD V rows.length):=CA h.row fun g _ hg=>ha.block g hg
 have hb2:Below B w w2:=(ha.mono hw).grown hg hs1 (fun k hk=>(hrow1.lt k hk).1)
 refine⟨⟨?_,fun i q e=>?_⟩,hb2,fun k cs T fr hc hT=>?_⟩
 ·rw[List.length_append,List.length_singleton,←EL];exact ho
 ·rw[List.getElem?_append] at e
  split at e
  ·rename_i hi
   unfold mD
   rw[if_neg (by omega)]
   exact(h.each i q e).on hb2
  ·rename_i hi
   have:i=rows.length:=by
    have:=(List.getElem?_eq_some_iff.1 e).1
    simp at this;omega
   subst this
   rw[Nat.sub_self] at e
   obtain rfl:r=q:=by simpa using e
   unfold mD
   rw[if_pos rfl]
   exact hr.on hb2
 ·have h1:w1.heap[k]?=some (.cells cs T fr):=(ha.block k (lt_of_block hc)).trans hc
  have hne:sv.ownBlock≠some k:=by
   rcases hrow1.2 with ⟨rfl,_⟩|⟨g,cap,cur,rfl,_,hgg,_⟩
   ·simp[Value.ownBlock]
   ·intro e
    simp only[Value.ownBlock,Option.some.injEq] at e
    subst e
    rw[hgg] at h1
    simp only[Option.some.injEq,Obj.cells.injEq] at h1
    exact hT h1.2.1.symm
  rw[hg.block k (lt_of_block h1) (fun e=>hne e.symm),h1,hc]
theorem FAt.get{B:Nat}{w:World}{a:Option Addr}{n cap:Nat}{rows:List FRow}{V:Nat→Nat→Value}(h:FAt B w (.slice a n cap) rows V){i:Nat}{r:FRow}(hr:rows[i]?=some r):n=rows.length∧∃g,a=some ⟨g,0,none⟩∧∀c,c<8→w.cell? ⟨g,i * 8+c,none⟩=some (V i c):=by
 have hi:=(List.getElem?_eq_some_iff.1 hr).1
 rcases h.row.2 with ⟨_,h0⟩|⟨g,cap',cur,e1,_⟩
 ·omega
 ·injection e1 with e2 e3 e4
  refine⟨e3,g,e2,fun c hc=>?_⟩
  have hrow:=h.row
  rw[e2,e3] at hrow
  have h5:=hrow.cells (g:=g) rfl (i * 8+c) _ (xE V rows.length i c hi hc)
  have h6:(⟨g,0,none⟩:Addr).add (i * 8+c)=⟨g,i * 8+c,none⟩:=by
   unfold Addr.add
   split
   ·rename_i h0
    rw[h0]
   ·simp
  rw[h6] at h5
  exact h5
theorem xH(d:Nat)(up:List It):∀(a b:List It) (n:Nat),BA d n up (a++b)=BA d n up a++BA d (n+a.length) up b
 | [],b,n=>by rw[BA];rfl
 |t::r,b,n=>by
  rw[List.cons_append,BA,BA,xH d up r b (n+1),List.append_assoc,List.length_cons,show n+1+r.length=n+(r.length+1) by omega]
theorem iK(d:Nat)(l:List It)(i:Nat)(t:It)(h:l[i]?=some t)(up:List It):BA d 0 up (l.take (i+1))=BA d 0 up (l.take i)++NB d i up t:=by
 obtain⟨hi,e⟩:=List.getElem?_eq_some_iff.1 h
 rw[List.take_succ_eq_append_getElem hi,e,xH,BA,BA,List.append_nil,List.length_take,Nat.min_eq_left (by omega),Nat.zero_add]
theorem SE:∀(N:Nat) (t:It),jA t≤N→∀(d n:Nat) (up:List It),(NB d n up t).length≤jA t
 |0,t,h,d,n,up=>by have:=uA t;omega
 |N+1,t,h,d,n,up=>by
  have hks:∀(l all:List It) (j:Nat),(∀x∈l,jA x≤N)→(BA (d+1) j all l).length≤lA l:=by
   intro l
   induction l with
   |nil=>intro all j _;rw[BA];simp
   |cons x r ih=>
    intro all j hx
    have h1:=ih all (j+1) (fun y hy=>hx y (List.mem_cons_of_mem _ hy))
    have h2:=SE N x (hx x (by simp)) (d+1) j all
    rw[BA,List.length_append,lA]
    omega
  have h1:=hks t.kids t.kids 0 (fun x hx=>by have:=rB hx;omega)
  have h2:=uA t
  rw[tC,List.length_cons]
  omega
theorem yH(d:Nat)(up:List It):∀(l:List It) (n:Nat),(BA d n up l).length≤lA l
 | [],n=>by rw[BA];simp
 |x::r,n=>by
  have h1:=yH d up r (n+1)
  have h2:=SE _ x (nR _) d n up
  rw[BA,List.length_append,lA]
  omega
theorem SF:∀(l:List It) (i:Nat) (t:It),l[i]?=some t→lA (l.take (i+1))=lA (l.take i)+jA t
 |a::r,0,t,h=>by
  obtain rfl:a=t:=by simpa using h
  simp[lA]
 |a::r,i+1,t,h=>by
  have:=SF r i t (by simpa using h)
  rw[List.take_succ_cons,List.take_succ_cons,lA,lA,this]
  omega
theorem lE:∀(l:List It) (i:Nat),lA (l.take i)≤lA l
 | [],i=>by simp
 |a::r,0=>by simp[lA]
 |a::r,i+1=>by
  have:=lE r i
  rw[List.take_succ_cons,lA,lA]
  omega
theorem PT{V:Nat→Nat→Value}{n:Nat}(h:∀i c,i<n→c<4→(V i c).oneCell'=true):∀u∈GA V n,u.oneCell'=true:=by
 intro u hu
 unfold GA at hu
 obtain⟨q,hq,rfl⟩:=List.mem_map.1 hu
 rw[List.mem_range] at hq
 exact h _ _ (by omega) (by omega)
theorem NT{w:World}{b o n:Nat}{V:Nat→Nat→Value}(h:∀i c,i<n→c<4→w.cell? ⟨b,o+i * 4+c,none⟩=some (V i c)):∀(j:Nat) (u:Value),(GA V n)[j]?=some u→w.cell? ((⟨b,o,none⟩:Addr).add j)=some u:=by
 intro j u hu
 have hj:j<n * 4:=by
  have:=(List.getElem?_eq_some_iff.1 hu).1
  rw[LA] at this
  exact this
 have e:j=j / 4 * 4+j % 4:=by omega
 have h1:=bB V n (j / 4) (j % 4) (by omega) (by omega)
 rw[←e,hu] at h1
 rw[dC]
 have h2:=h (j / 4) (j % 4) (by omega) (by omega)
 rw[show o+j / 4 * 4+j % 4=o+j by omega] at h2
 rw[h2,h1]
set_option maxRecDepth 100000 in
theorem sH(a:Option Addr)(n c:Nat)(V:Nat→Nat→Value)(w:World)(hn:n≤4194304)(hk:∀i,i<n→∃b o,a=some ⟨b,o,none⟩∧∀q,q<4→w.cell? ⟨b,o+i * 4+q,none⟩=some (V i q))(h1:∀i q,i<n→q<4→(V i q).oneCell'=true)(ha:a=none→n=0∧c=0):
 Calls Tryz.prog 107 #[.slice a n c] w fun e w'=>(∃v,e=.returned v∧w'.ownsRow w.heap.size 25 4 v n (GA V n))∧Below w.heap.size w w':=by
 obtain⟨i0,iz,hI⟩:=Tryz.infoItem
 have HI:=aA hI
 clear hI
 cases a with
 |none=>
  obtain⟨rfl,rfl⟩:=ha rfl
  clear hk h1 ha
  have hnil:=fun w=>Lib.run_eql_slice_nil (P:=Tryz.prog) w 23 25 none 0 0 0 0 Tryz.underlying23
  go_enter Tryz.func107,Tryz.ntmps107
  go_wp2
  go_ret
  exact⟨⟨_,rfl,World.ownsRow_nil _ _ _ _⟩,Below.refl _ _⟩
 |some ad=>
  have HN:Hid (∀(W:World),Below w.heap.size w W→∀(j:Nat) (u:Value),(GA V n)[j]?=some u→W.cell? (ad.add j)=some u):=fun W hW j u hu=>by
   have hj:j<n * 4:=by
    have:=(List.getElem?_eq_some_iff.1 hu).1
    rw[LA] at this
    exact this
   obtain⟨b,o,e,_⟩:=hk (j / 4) (by omega)
   injection e with e
   subst e
   refine NT (w:=W) (fun i q hi hq=>?_) j u hu
   obtain⟨b',o',e',hc⟩:=hk i hi
   injection e' with e'
   injection e' with e1 e2
   subst e1 e2
   exact(hW.cell (p:=⟨b,o+i * 4+q,none⟩) (dA (hc q hq))).trans (hc q hq)
  have HOC:=aA (PT h1)
  have HL4:=aA (LA V n)
  clear hk h1 ha
  have hnil:=fun w=>Lib.run_eql_slice_nil (P:=Tryz.prog) w 23 25 (some ad) n c 0 0 Tryz.underlying23
  go_enter Tryz.func107,Tryz.ntmps107
  have HA:Hid (Below w.heap.size w (w.alloc (.cells #[] 25))):=bA _ _
  have HO:Hid ((w.alloc (.cells #[] 25)).ownsRow w.heap.size 25 4 (.slice (some ⟨w.heap.size,0,none⟩) 0 0) 0 []):=⟨rfl,.inr ⟨w.heap.size,0,#[],rfl,nR _,heap_alloc_new _ _,nR _,by decide,rfl,rfl⟩⟩
  go_wp2_with (at_builtin;go_loud (refine wpList_append_own _ rfl (.tmp 5) (.tmp 6) 23 rfl w.heap.size 25 i0 iz 4 80 Tryz.underlying23 HI.out.1 HI.out.2.1 HI.out.2.2.1 HI.out.2.2.2.1 HI.out.2.2.2.2 (by decide) (.slice (some ⟨w.heap.size,0,none⟩) 0 0) 0 [] (by simp[Act.eval]) HO.out ad n c (GA V n) (by simp[Act.eval]) HL4.out (HN.out _ HA.out) HOC.out (by unfold maxLen;omega) (by omega) (by simp) ?_))
  intro v' w' ho' hg _
  obtain⟨ga,ca,hv'⟩:=tA ho'
  subst hv'
  have HH:=aA (aI ho' hg)
  clear ho' hg
  go_wp2
  go_ret
  have h5:=HH.out.1
  exact⟨⟨_,rfl,h5⟩,HA.out.grown HH.out.2 (by simp) (fun k hk=>(HO.out.lt k hk).1)⟩
set_option maxRecDepth 100000 in
theorem yL(a:Option Addr)(c:Nat)(ls:List ByteArray)(w:World)(hn:ls.length≤4194304)(hk:∀i s,ls[i]?=some s→∃b o,a=some ⟨b,o,none⟩∧w.cell? ⟨b,o+i,none⟩=some (.string s))(ha:a=none→ls=[]∧c=0):
 Calls Tryz.prog 64 #[.slice a ls.length c] w fun e w'=>(∃v,e=.returned v∧w'.ownsRow w.heap.size 9 1 v ls.length (ls.map Value.string))∧Below w.heap.size w w':=by
 obtain⟨i0,iz,hI⟩:=Tryz.infoStr
 have HI:=aA hI
 clear hI
 cases a with
 |none=>
  obtain⟨rfl,rfl⟩:=ha rfl
  clear hk ha
  have hnil:=fun w=>Lib.run_eql_slice_nil (P:=Tryz.prog) w 22 9 none 0 0 0 0 Tryz.underlying22
  show Calls _ _ #[.slice none 0 0] w _
  go_enter Tryz.func64,Tryz.ntmps64
  go_wp2
  go_ret
  exact⟨⟨_,rfl,World.ownsRow_nil _ _ _ _⟩,Below.refl _ _⟩
 |some ad=>
  have HN:Hid (∀(W:World),Below w.heap.size w W→∀(j:Nat) (u:Value),(ls.map Value.string)[j]?=some u→W.cell? (ad.add j)=some u):=fun W hW j u hu=>by
   rw[List.getElem?_map] at hu
   obtain⟨s,hs,rfl⟩:=Option.map_eq_some_iff.1 hu
   obtain⟨b,o,e,hc⟩:=hk j s hs
   injection e with e
   subst e
   rw[dC]
   exact(hW.cell (p:=⟨b,o+j,none⟩) (dA hc)).trans hc
  have HOC:Hid (∀u∈ls.map Value.string,u.oneCell'=true):=by
   intro u hu
   obtain⟨s,_,rfl⟩:=List.mem_map.1 hu
   rfl
  have HL4:Hid ((ls.map Value.string).length=ls.length * 1):=by show _=_;rw[List.length_map,Nat.mul_one]
  obtain⟨n,hnn⟩:∃n,n=ls.length:=⟨_,rfl⟩
  rw[←hnn] at hn HL4
  rw[←hnn]
  generalize ls.map Value.string=xs at *
  clear hk ha hnn
  have hnil:=fun w=>Lib.run_eql_slice_nil (P:=Tryz.prog) w 22 9 (some ad) n c 0 0 Tryz.underlying22
  go_enter Tryz.func64,Tryz.ntmps64
  have HA:Hid (Below w.heap.size w (w.alloc (.cells #[] 9))):=bA _ _
  have HO:Hid ((w.alloc (.cells #[] 9)).ownsRow w.heap.size 9 1 (.slice (some ⟨w.heap.size,0,none⟩) 0 0) 0 []):=⟨rfl,.inr ⟨w.heap.size,0,#[],rfl,nR _,heap_alloc_new _ _,nR _,by decide,rfl,rfl⟩⟩
  go_wp2_with (at_builtin;go_loud (refine wpList_append_own _ rfl (.tmp 5) (.tmp 6) 22 rfl w.heap.size 9 i0 iz 1 16 Tryz.underlying22 HI.out.1 HI.out.2.1 HI.out.2.2.1 HI.out.2.2.2.1 HI.out.2.2.2.2 (by decide) (.slice (some ⟨w.heap.size,0,none⟩) 0 0) 0 [] (by simp[Act.eval]) HO.out ad n c xs (by simp[Act.eval]) HL4.out (HN.out _ HA.out) HOC.out (by unfold maxLen;omega) (by omega) (by simp) ?_))
  intro v' w' ho' hg _
  obtain⟨ga,ca,hv'⟩:=tA ho'
  subst hv'
  have HH:=aA (aI ho' hg)
  clear ho' hg
  go_wp2
  go_ret
  have h5:=HH.out.1
  exact⟨⟨_,rfl,h5⟩,HA.out.grown HH.out.2 (by simp) (fun k hk=>(HO.out.lt k hk).1)⟩
end Go.Proofs.YtpbolcjcmkmalaaGreatDoor

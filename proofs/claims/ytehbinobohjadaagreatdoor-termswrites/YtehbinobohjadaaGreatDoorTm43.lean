import Derived.Test.YtehbinobohjadaaGreatDoorTm00
import Derived.Test.YtehbinobohjadaaGreatDoorTm35
import Derived.Deep.LoopGhost
set_option maxHeartbeats 20000000
set_option maxRecDepth 20000
namespace Go.Proofs.YtehbinobohjadaaGreatDoor
open Go.RowKit Go.Extern.Stop Go.Stop Go.Extern
theorem RSt.at14{L:List Tok}{bp tb cp sp:Nat}{w0 w:World}{k n:Nat}{cs:Array Value}{v:Value}(h:RSt L bp tb cp sp w0 w k n (cs.setIfInBounds 14 v)):w.cell? ⟨sp,14,none⟩=some v:=by
 have h1:=h.s
 have h2:=h.z
 have h3:14<cs.size:=by simp at h2;omega
 simp[World.cell?,h1,h3]
structure OvR(L:List Tok)(bp tb cp sp c1:Nat)(w0 W2 wr:World)(k n:Nat)(cs:Array Value)(v:Value)(l:List ByteArray):Prop where
 r:RSt L bp tb cp sp w0 wr k n (cs.setIfInBounds 14 v)
 b:BelY c1 bp sp W2 wr
 o:wr.ownsRow c1 9 1 v l.length (l.map Value.string)
 len:l.length≤k
 sl:∃va vc,v=.slice va l.length vc
 le:c1≤wr.heap.size
 lo:w0.heap.size≤c1∧sp<c1
theorem OvR.call{L:List Tok}{bp tb cp sp c1:Nat}{w0 W2 wr W':World}{k n k' n':Nat}{cs:Array Value}{v:Value}{l:List ByteArray}(h:OvR L bp tb cp sp c1 w0 W2 wr k n cs v l)(hp:POk L bp tb cp W' k' n')(hb:BelX wr.heap.size bp wr W')(hk:k≤k'):OvR L bp tb cp sp c1 w0 W2 W' k' n' cs v l:=by
 have h1:=h.r.bl
 have h2:=h.lo
 exact⟨h.r.call hp hb,h.b.then (hb.y sp) h.le,mC h.o fun g hg hl=>hb.block g hl (by have:=(h.o.lt g hg).1;omega),by have:=h.len;omega,h.sl,by have:=hb.size;have:=h.le;omega,h.lo⟩
theorem OvR.push{L:List Tok}{bp tb cp sp c1:Nat}{w0 W2 wr W4:World}{k n:Nat}{cs:Array Value}{v v':Value}{l:List ByteArray}{x:ByteArray}(h:OvR L bp tb cp sp c1 w0 W2 wr k n cs v l)(hk:l.length+1≤k)
 (ho:W4.ownsRow c1 9 1 v' (l.length+1) (l.map Value.string++[Value.string x])) (hg:(wr.alloc (.cells #[Value.string x] 9)).grownBy W4 v.ownBlock):OvR L bp tb cp sp c1 w0 W2 (W4.setCell ⟨sp,14,none⟩ v') k n cs v' (l++[x]):=by
 have hs4:wr.heap.size<W4.heap.size:=by have:=hg.size;simp at this;omega
 have hb4:∀b,b<c1→W4.heap[b]?=wr.heap[b]?:=fun b hb=>(hg.block b (by simp;have:=h.le;omega) (by intro e;have:=(h.o.lt b e.symm).1;omega)).trans ((bA _ _).block b (by have:=h.le;omega))
 have hset:∀b,b≠sp→(W4.setCell ⟨sp,14,none⟩ v').heap[b]?=W4.heap[b]?:=fun b hb=>Below.heap_setCell _ _ _ _ hb
 have hle:=h.le
 have hlo:=h.lo
 have hbl:=h.r.bl
 have hsl:=h.r.lo
 have hall:∀b,b<c1→b≠sp→(W4.setCell ⟨sp,14,none⟩ v').heap[b]?=wr.heap[b]?:=fun b h1 h2=>(hset b h2).trans (hb4 b h1)
 refine⟨⟨h.r.p.keep (hall bp (by omega) (by omega)) (hall tb (by omega) (by omega)),⟨hg.os.trans h.r.b.os,hg.tape.trans h.r.b.tape,hg.output.trans h.r.b.output,by have:=h.r.b.size;simp;omega,fun q h3 h4=>(hall q (by omega) (by omega)).trans (h.r.b.block q h3 h4)⟩,?_,by have:=h.r.z;simpa using this,h.r.lo,h.r.bl⟩,⟨hg.os.trans h.b.os,hg.tape.trans h.b.tape,hg.output.trans h.b.output,by have:=h.b.size;simp;omega,fun b h1 h2 h3=>(hall b h1 h3).trans (h.b.block b h1 h2 h3)⟩,?_,by rw[List.length_append,List.length_singleton];exact hk,?_,by simp;omega,h.lo⟩
 ·rw[LA ((hb4 sp hlo.2).trans h.r.s)]
  have e:(cs.setIfInBounds 14 v).setIfInBounds 14 v'=cs.setIfInBounds 14 v':=by
   apply Array.ext_getElem?
   intro j
   simp only[Array.getElem?_setIfInBounds,Array.size_setIfInBounds]
   split<;>rfl
  rw[e]
 ·rw[List.length_append,List.length_singleton,List.map_append]
  exact mC ho fun g hg' _=>hset g (by have:=(ho.lt g hg').1;omega)
 ·rw[List.length_append,List.length_singleton]
  exact pE ho
def LT(L:List Tok)(bp tb cp sp c1:Nat)(w0 W2:World)(cs:Array Value)(o:List ByteArray)(kF nF g:Nat)(wr:World):Prop:=∃f l k n v,f≤g∧OvR L bp tb cp sp c1 w0 W2 wr k n cs v l∧jD L f l k n=.ok o kF nF
def zP(L:List Tok)(bp tb cp sp c1:Nat)(w0 W2:World)(cs:Array Value)(o:List ByteArray)(kF nF fo g:Nat)(wr:World):Prop:=∃f l k n v,f≤g∧OvR L bp tb cp sp c1 w0 W2 wr k n cs v l∧((rD L f l k n).bind fun l k n=>jD L fo l k n)=.ok o kF nF
theorem ZL{L:List Tok}{s:ByteArray}{k n k' n':Nat}{b:Bool}(h:yB L s k n=.ok b k' n'):k≤k':=by
 unfold yB at h
 split at h
 ·obtain⟨_,_,_,e1,e2⟩:=PR.bind_okE h
  injection e2 with _ e3 _
  unfold pA at e1
  split at e1
  ·cases e1
  ·injection e1 with _ e4 _
   unfold jF at e4
   split at e4<;>omega
 ·injection h with _ h _;omega
theorem tQ{L:List Tok}{s:ByteArray}{k n k' n':Nat}{x:Unit}(h:oA L s k n=.ok x k' n'):k≤k':=by
 unfold oA at h
 split at h
 ·unfold pA at h
  split at h
  ·cases h
  ·injection h with _ e4 _
   unfold jF at e4
   split at e4<;>omega
 ·cases h
theorem GJ{L:List Tok}(g:GoodL L){k n k' n':Nat}{x:ByteArray}(h:uB L k n=.ok x k' n'):k'=k+1:=by
 unfold uB at h
 split at h
 ·rename_i hk
  rw[g.step n (g.word hk.1),PR.bind_ok] at h
  injection h with _ h _;omega
 ·cases h
set_option maxRecDepth 10000 in
theorem iT{L:List Tok}{bp tb cp f:Nat}{w:World}{k n k' n':Nat}{K:ByteArray}{x:SentW}(hK:K=wRule)(h:POk L bp tb cp w k n)(g:GoodL L)(hA:OD L bp tb cp 66 (zA L f))(he:FF L f K k n=.ok x k' n'):
 Calls Tryz.prog 31 #[.pointer (some ⟨bp,0,none⟩),.string K] w fun e w'=>XK L bp tb cp w x k' n' e w':=by
 have twRule:(K.toList==[114,117,108,101])=true:=JM hK (by decide)
 have twDefine:(K.toList==[100,101,102,105,110,101])=false:=CH hK (by decide)
 have twAmount:(K.toList==[97,109,111,117,110,116])=false:=CH hK (by decide)
 have iwRule:vA K wRule=true:=by unfold vA;rw[Lib.toList_data wRule];exact twRule
 have iwDefine:¬vA K wDefine=true:=by unfold vA;rw[Lib.toList_data wDefine];show ¬(K.toList==[100,101,102,105,110,101])=true;rw[twDefine];simp
 have iwAmount:¬vA K wAmount=true:=by unfold vA;rw[Lib.toList_data wAmount];show ¬(K.toList==[97,109,111,117,110,116])=true;rw[twAmount];simp
 unfold FF at he
 obtain⟨nm,k1,n1,e1,he⟩:=PR.bind_okE he
 rw[if_pos iwRule] at he
 obtain⟨st,k2,n2,eS,he⟩:=PR.bind_okE he
 obtain⟨_,k3,n3,e3,he⟩:=PR.bind_okE he
 rw[if_neg iwDefine,if_neg iwAmount] at he
 obtain⟨lt,kz,nz,eL,he⟩:=PR.bind_okE he
 unfold MO at eL
 obtain⟨nb,k4,n4,e4,eM⟩:=PR.bind_okE eL
 obtain⟨hd,k5,n5,e5,eN⟩:=PR.bind_okE eM
 injection eN with eN ek en
 subst eN ek en
 rw[if_pos iwRule] at he
 obtain⟨c,k6,n6,e6,he⟩:=PR.bind_okE he
 obtain⟨o,k7,n7,e7,he⟩:=PR.bind_okE he
 injection he with he ek en
 subst he ek en
 clear eL eM
 unfold FG at eS
 obtain⟨b1,kA,nA,eA,eS⟩:=PR.bind_okE eS
 have HS0:=aA (RSt.start h K)
 have hbl:=h.s.in
 have HNm:=aA (SF HS0.out.p e1)
 have HE:=aA (aI e3 (aI e4 (aI e5 (aI e6 e7))))
 have HG:=aA g
 have HAr:=aA hA
 have HES:=aA eS
 have HEA:=aA eA
 obtain⟨i0,iz,hi0⟩:=Tryz.infoStrQ
 have HI:=aA hi0
 clear e1 e3 e4 e5 e6 e7 eA eS h hA g hi0 hK iwRule iwDefine iwAmount
 go_enter Tryz.func31,Tryz.ntmps31
 go_upto_region 2 with (refine qE rfl _ rfl K (by simp[Act.eval]) ?_)
 obtain⟨W1,hW1⟩:∃W1,W1=w.alloc (.cells (tB K) 47):=⟨_,rfl⟩
 rw[←hW1] at HS0 HNm ⊢
 have hs1:w.heap.size<W1.heap.size:=by rw[hW1];simp
 clear hW1
 go_upto_region 3 with (go_at_call 63;refine HNm.out.mono ?_;rintro e W1a ⟨rfl,hp,hb⟩;have hs2:=HS0.out.call hp hb;obtain⟨c1,x1⟩:=hs2.cell (i:=1) (by omega);have xf:=hs2.froz;have hz1:=hb.size;have G1:=aA (aI hs2 hb);clear hp hb hs2)
 obtain⟨W1,hW⟩:∃V,V=W1a.setCell ⟨w.heap.size,1,none⟩ (.string nm):=⟨_,rfl⟩
 rw[←hW]
 have H1:Hid (RSt L bp tb cp w.heap.size w W1 k1 n1 ((tB K).setIfInBounds 1 (.string nm))):=by show RSt _ _ _ _ _ _ _ _ _ _;rw[hW];exact G1.out.1.set 1 _
 clear hW x1 xf G1 HS0
 obtain⟨c1,x1⟩:=H1.out.cell (i:=2) (by omega)
 have xf:=H1.out.froz
 go_upto_region 5 with fail
 obtain⟨W2,hW⟩:∃V,V=W1.setCell ⟨w.heap.size,2,none⟩ (.int .i64 1):=⟨_,rfl⟩
 rw[←hW]
 have H2:Hid (RSt L bp tb cp w.heap.size w W2 k1 n1 (((tB K).setIfInBounds 1 (.string nm)).setIfInBounds 2 (.int .i64 1))):=by show RSt _ _ _ _ _ _ _ _ _ _;rw[hW];exact H1.out.set 2 _
 clear hW x1 xf H1
 have HT1:=aA (xF (s:=⟨#[115,116,114,105,99,116]⟩) H2.out.p HEA.out)
 go_upto_region 6 with (go_at_call 64;refine HT1.out.mono ?_;rintro e W3 ⟨rfl,hp,hb⟩;have hz3:=hb.size;have H3:=aA (H2.out.call hp hb);have G3:=aA hb;clear hp hb)
 clear G3 H2
 obtain⟨D0,hD0⟩:∃D0,D0=((tB K).setIfInBounds 1 (.string nm)).setIfInBounds 2 (.int .i64 1):=⟨_,rfl⟩
 rw[←hD0] at H3
 have HD0:=aA hD0
 clear hD0
 go_upto_if 27 with fail
 go_cut [7] (fun _ wx=>RSt L bp tb cp w.heap.size w wx k2 n2 (D0.setIfInBounds 2 (.int .i64 st)))
 case first=>
  cases b1 with
  |true=>
   rw[if_pos rfl] at HES
   have h9:=HES.out
   injection h9 with e1 e2 e3
   subst e1 e2 e3
   obtain⟨c1,x1⟩:=H3.out.cell (i:=2) (by omega)
   have xf:=H3.out.froz
   go_wp2_with fail
   go_meet
   exact H3.out.set 2 _
  |false=>
   rw[if_neg (by simp)] at HES
   obtain⟨b2,kB,nB,eB,eS⟩:=PR.bind_okE HES.out
   have HT2:=aA (xF (s:=⟨#[100,101,102,101,97,116,101,114]⟩) H3.out.p eB)
   have HES2:=aA eS
   clear eB eS HES
   cases b2 with
   |true=>
    rw[if_pos rfl] at HES2
    have h9:=HES2.out
    injection h9 with e1 e2 e3
    subst e1 e2 e3
    go_wp2_with (go_at_call 64;refine HT2.out.mono ?_;rintro e Wt ⟨rfl,hp,hb⟩;have ht:=H3.out.call hp hb;obtain⟨c1,x1⟩:=ht.cell (i:=2) (by omega);have xf:=ht.froz;have Ht:=aA ht;clear hp hb ht)
    go_meet
    exact Ht.out.set 2 _
   |false=>
    rw[if_neg (by simp)] at HES2
    have h9:=HES2.out
    injection h9 with e1 e2 e3
    subst e1 e2 e3
    go_wp2_with (go_at_call 64;refine HT2.out.mono ?_;rintro e Wt ⟨rfl,hp,hb⟩;have ht:=H3.out.call hp hb;obtain⟨c1,x1⟩:=ht.cell (i:=2) (by omega);have xf:=ht.froz;have Ht:=aA ht;clear hp hb ht)
    go_meet
    have h14:D0.setIfInBounds 2 (.int .i64 1)=D0:=by
     rw[HD0.out]
     apply nD
     simp[tB]
    show RSt _ _ _ _ _ _ _ _ _ (D0.setIfInBounds 2 (.int .i64 1))
    rw[h14]
    exact Ht.out
 case rest=>
  have HR0:=aA hcut
  clear hcut H3 HES
  have HNd:=aA (dH (s:=⟨#[58]⟩) HR0.out.p HE.out.1)
  go_upto_region 23 with (go_at_call 65;refine HNd.out.mono ?_;rintro e W51 ⟨rfl,hp,hb⟩;have hz51:=hb.size;have H51:=aA (HR0.out.call hp hb);have G51:=aA hb;clear hp hb)
  clear G51 HR0
  have HTk:=aA (xF (s:=⟨#[110,111,116]⟩) H51.out.p HE.out.2.1)
  go_upto_region 24 with (go_at_call 64;refine HTk.out.mono ?_;rintro e W52 ⟨rfl,hp,hb⟩;have hz52:=hb.size;have H52:=aA (H51.out.call hp hb);have G52:=aA hb;clear hp hb)
  clear G52 H51
  obtain⟨c1,x1⟩:=H52.out.cell (i:=3) (by omega)
  have xf:=H52.out.froz
  go_upto_region 25 with fail
  obtain⟨W53,hW⟩:∃V,V=W52.setCell ⟨w.heap.size,3,none⟩ (.bool (!nb)):=⟨_,rfl⟩
  rw[←hW]
  have H53:Hid (RSt L bp tb cp w.heap.size w W53 k4 n4 ((D0.setIfInBounds 2 (.int .i64 st)).setIfInBounds 3 (.bool (!nb)))):=by show RSt _ _ _ _ _ _ _ _ _ _;rw[hW];exact H52.out.set 3 _
  clear hW x1 xf H52
  have HNh:=aA (SF H53.out.p HE.out.2.2.1)
  go_upto_region 26 with (go_at_call 63;refine HNh.out.mono ?_;rintro e W54a ⟨rfl,hp,hb⟩;have hs2:=H53.out.call hp hb;obtain⟨c1,x1⟩:=hs2.cell (i:=4) (by omega);have xf:=hs2.froz;have hz54:=hb.size;have G54:=aA (aI hs2 hb);clear hp hb hs2)
  obtain⟨W54,hW⟩:∃V,V=W54a.setCell ⟨w.heap.size,4,none⟩ (.string hd):=⟨_,rfl⟩
  rw[←hW]
  have H54:Hid (RSt L bp tb cp w.heap.size w W54 k5 n5 (((D0.setIfInBounds 2 (.int .i64 st)).setIfInBounds 3 (.bool (!nb))).setIfInBounds 4 (.string hd))):=by show RSt _ _ _ _ _ _ _ _ _ _;rw[hW];exact G54.out.1.set 4 _
  clear hW x1 xf G54 H53
  have HC:=aA (vI H54.out (by rw[HD0.out];exact⟨by simp[tB],by simp[tB],by simp[tB],by simp[tB]⟩) HAr.out HE.out.2.2.2.1)
  go_wp2_with (go_at_call 68;refine HC.out.mono ?_;rintro e W2 ⟨rfl,hb,a5,b5,c5,d5,hs2,hN⟩;have H2:=aA hs2;have HN:=aA hN;clear hb hs2 hN)
  clear HC H54
  obtain⟨E,hE⟩:∃E,E=uA (((D0.setIfInBounds 2 (.int .i64 st)).setIfInBounds 3 (.bool (!nb))).setIfInBounds 4 (.string hd)) 5 a5 b5 c5 d5:=⟨_,rfl⟩
  rw[←hE] at H2
  have hE14:E[14]?=some (.slice none 0 0):=by rw[hE,HD0.out];simp[uA,tB]
  have HEq:=aA hE
  have hlen:k7≤1000000∨True:=.inr trivial
  obtain⟨c1,hc1⟩:∃c1,c1=W2.heap.size:=⟨_,rfl⟩
  have hsp2:w.heap.size<c1:=by rw[hc1];exact H2.out.in
  have HS1:Hid (LT L bp tb cp w.heap.size c1 w W2 E o k7 n7 f W2):=⟨f,[],k6,n6,.slice none 0 0,nR _,⟨by rw[nD hE14];exact H2.out,BelY.refl _ _ _ _,⟨rfl,.inl ⟨rfl,rfl⟩⟩,Nat.zero_le _,⟨none,0,rfl⟩,by omega,by omega,hsp2⟩,HE.out.2.2.2.2⟩
  have HC1:=aA hc1
  clear hE hE14 hc1 HE hlen
  go_loopg [] f (fun g wr=>LT L bp tb cp w.heap.size c1 w W2 E o k7 n7 g wr)
  case atStart=>exact HS1.out
  case round=>
   clear HS1
   obtain⟨f',l,k3,n3,v,hg,hO,hR⟩:=hrel
   have hk4:k3<4000:=by have:=hO.r.p.s.lt;have:=hO.r.p.s.len;omega
   have hlk:=hO.len
   cases f' with
   |zero=>rw[jD] at hR;cases hR
   |succ f'=>
    rw[jD] at hR
    obtain⟨b,k4,n4,e4,hR⟩:=PR.bind_okE hR
    have HGg:=aA hg
    have HO:=aA hO
    have HT:=aA (xF (s:=⟨#[59]⟩) hO.r.p e4)
    have hk34:=ZL e4
    have HR:=aA hR
    clear hO hR hg e4
    cases b with
    |false=>
     rw[if_neg (by simp)] at HR
     have h9:=HR.out
     injection h9 with e1 e2 e3
     subst e1 e2 e3
     clear HR
     go_wp2_with (go_at_call 64;refine HT.out.mono ?_;rintro e W4 ⟨rfl,hp,hb⟩;have HO4:=aA (HO.out.call hp hb hk34);clear hp hb)
     go_ret
     refine⟨w.heap.size,_,rfl,HO4.out.r,?_⟩
     have hN4:=(HN.out.y (by rw[←HC1.out];exact HO4.out.b) hbl).nl
     have ho4:=HO4.out.o
     have hz4:=HO4.out.r.z
     rw[HEq.out,HD0.out] at hz4 ⊢
     exact⟨hz4,by simp[uA,tB],by simp[uA,tB],by simp[uA,tB],by simp[uA,tB],by simp[uA,tB],⟨_,iG (by simp[uA,tB]) (by simp[uA,tB]) (by simp[uA,tB]) (by simp[uA,tB]),hN4⟩,⟨_,iG (by simp[uA,tB]) (by simp[uA,tB]) (by simp[uA,tB]) (by simp[uA,tB]),QG _ _⟩,by simp[uA,tB],⟨v,c1,by simp[uA,tB],by omega,ho4⟩,by simp[uA,tB],by simp[uA,tB],by simp[uA,tB],by simp[uA,tB]⟩
    |true=>
     rw[if_pos rfl] at HR
     obtain⟨_,k5,n5,e5,hR⟩:=PR.bind_okE HR.out
     obtain⟨x6,k6,n6,e6,hR⟩:=PR.bind_okE hR
     have HE5:=aA (aI e5 (aI e6 hR))
     have hk45:=tQ e5
     have hk56:=GJ HG.out e6
     clear HR e5 e6 hR
     obtain⟨va,vc,rfl⟩:=HO.out.sl
     go_upto_region 31 with (first|(go_at_call 64;refine HT.out.mono ?_;rintro e W4 ⟨rfl,hp,hb⟩;have HO4:=aA (HO.out.call hp hb hk34);clear hp hb)|(go_at_call 65;refine(dH HO4.out.r.p HE5.out.1).mono ?_;rintro e W5 ⟨rfl,hp,hb⟩;have HO5:=aA (HO4.out.call hp hb hk45);clear hp hb)|(go_at_call 63;refine(SF HO5.out.r.p HE5.out.2.1).mono ?_;rintro e W6 ⟨rfl,hp,hb⟩;have HO6:=aA (HO5.out.call hp hb (by omega));clear hp hb))
     have hk64:k6<4000:=by have:=HO6.out.r.p.s.lt;have:=HO6.out.r.p.s.len;omega
     have hw6:=HO6.out.le
     clear HO HO4 HO5 HT
     have y14:=HO6.out.r.at14
     have yf:=HO6.out.r.froz
     go_wp2_with (at_builtin;go_loud (refine MC _ rfl (.tmp 96) (.tmp 98) 26 rfl c1 9 i0 iz 1 16 Tryz.underlying26 HI.out.1 HI.out.2.1 HI.out.2.2.1 HI.out.2.2.2.1 HI.out.2.2.2.2 (by decide) (.slice va l.length vc) l.length (l.map Value.string) (by simp[Act.eval]) (mC HO6.out.o fun g _ hl=>(bA _ _).block g hl) ⟨W6.heap.size,0,none⟩ 1 1 [.string x6] (by simp[Act.eval]) rfl (LH _ _ _) (by intro u hu;simp only[List.mem_cons,List.not_mem_nil,or_false] at hu;rcases hu with rfl;rfl) (by decide) (by unfold maxLen;omega) (by omega) (by simp;omega) ?_);intro v' W7 ho hg hw9;(obtain⟨va',vc',hv'⟩:=pE ho);subst hv';(have hbs:W7.heap[w.heap.size]?=W6.heap[w.heap.size]?:=(hg.block w.heap.size (by simp;omega) (by intro e;have:=(HO6.out.o.lt w.heap.size e.symm).1;omega)).trans ((bA _ _).block w.heap.size (by omega)));(have z14:=(World.cell?_of_block (a:=⟨w.heap.size,14,none⟩) hbs).trans y14);(have zf:W7.frozen? ⟨w.heap.size,14,none⟩=false:=by simp[World.frozen?,hbs,HO6.out.r.s]);(have HW7:=aA (HO6.out.push (by omega) ho hg));clear ho hg hw9 hbs)
     obtain⟨V7,hV7⟩:∃V7,V7=W7.setCell ⟨w.heap.size,14,none⟩ (.slice va' (l.length+1) vc'):=⟨_,rfl⟩
     rw[←hV7] at HW7
     first|rw[←hV7]|skip
     have HS7:Hid (zP L bp tb cp w.heap.size c1 w W2 E o k7 n7 f' f' V7):=⟨f',l++[x6],k6,n6,_,nR _,HW7.out,HE5.out.2.2⟩
     clear hV7 y14 yf z14 zf HW7 HO6 HE5
     go_wp2_with fail
     go_loopg [] f' (fun g wr=>zP L bp tb cp w.heap.size c1 w W2 E o k7 n7 f' g wr)
     case atStart=>exact HS7.out
     case round=>
      clear HS7
      obtain⟨f2,l,k3,n3,v,hg,hO,hR⟩:=hrel
      have hk4':k3<4000:=by have:=hO.r.p.s.lt;have:=hO.r.p.s.len;omega
      have hlk':=hO.len
      cases f2 with
      |zero=>rw[rD] at hR;cases hR
      |succ f2=>
       rw[rD] at hR
       obtain⟨l2,kx,nx,eX,hR⟩:=PR.bind_okE hR
       obtain⟨b,k4,n4,e4,eX⟩:=PR.bind_okE eX
       have HG2:=aA hg
       have HO:=aA hO
       have HT:=aA (xF (s:=⟨#[44]⟩) hO.r.p e4)
       have hk34':=ZL e4
       have HR:=aA (aI eX hR)
       clear hO hR hg e4 eX
       cases b with
       |false=>
        rw[if_neg (by simp)] at HR
        have h9:=HR.out.1
        injection h9 with e1 e2 e3
        subst e1 e2 e3
        go_wp2_with (go_at_call 64;refine HT.out.mono ?_;rintro e W4 ⟨rfl,hp,hb⟩;have HO4:=aA (HO.out.call hp hb hk34');clear hp hb)
        go_roundg f'
        case rel=>exact⟨f',l,k4,n4,v,nR _,HO4.out,HR.out.2⟩
        case measure=>have:=HGg.out;omega
       |true=>
        rw[if_pos rfl] at HR
        obtain⟨x6,k6,n6,e6,eX⟩:=PR.bind_okE HR.out.1
        have HE6:=aA (aI e6 (show ((rD L f2 (l++[x6]) k6 n6).bind fun l k n=>jD L f' l k n)=.ok o k7 n7 by rw[eX];exact HR.out.2))
        have hk56':=GJ HG.out e6
        clear HR e6 eX
        obtain⟨va,vc,rfl⟩:=HO.out.sl
        go_upto_region 34 with (first|(go_at_call 64;refine HT.out.mono ?_;rintro e W4 ⟨rfl,hp,hb⟩;have HO4:=aA (HO.out.call hp hb hk34');clear hp hb)|(go_at_call 63;refine(SF HO4.out.r.p HE6.out.1).mono ?_;rintro e W6 ⟨rfl,hp,hb⟩;have HO6:=aA (HO4.out.call hp hb (by omega));clear hp hb))
        have hk64':k6<4000:=by have:=HO6.out.r.p.s.lt;have:=HO6.out.r.p.s.len;omega
        have hw6':=HO6.out.le
        clear HO HO4 HT
        have y14:=HO6.out.r.at14
        have yf:=HO6.out.r.froz
        go_wp2_with (at_builtin;go_loud (refine MC _ rfl (.tmp 110) (.tmp 112) 26 rfl c1 9 i0 iz 1 16 Tryz.underlying26 HI.out.1 HI.out.2.1 HI.out.2.2.1 HI.out.2.2.2.1 HI.out.2.2.2.2 (by decide) (.slice va l.length vc) l.length (l.map Value.string) (by simp[Act.eval]) (mC HO6.out.o fun g _ hl=>(bA _ _).block g hl) ⟨W6.heap.size,0,none⟩ 1 1 [.string x6] (by simp[Act.eval]) rfl (LH _ _ _) (by intro u hu;simp only[List.mem_cons,List.not_mem_nil,or_false] at hu;rcases hu with rfl;rfl) (by decide) (by unfold maxLen;omega) (by omega) (by simp;omega) ?_);intro v' W7 ho hg hw9;(obtain⟨va',vc',hv'⟩:=pE ho);subst hv';(have hbs:W7.heap[w.heap.size]?=W6.heap[w.heap.size]?:=(hg.block w.heap.size (by simp;omega) (by intro e;have:=(HO6.out.o.lt w.heap.size e.symm).1;omega)).trans ((bA _ _).block w.heap.size (by omega)));(have z14:=(World.cell?_of_block (a:=⟨w.heap.size,14,none⟩) hbs).trans y14);(have zf:W7.frozen? ⟨w.heap.size,14,none⟩=false:=by simp[World.frozen?,hbs,HO6.out.r.s]);(have HW7:=aA (HO6.out.push (by omega) ho hg));clear ho hg hw9 hbs)
        go_wp2
        go_roundg f2
        case rel=>exact⟨f2,l++[x6],k6,n6,_,nR _,HW7.out,HE6.out.2⟩
        case measure=>have:=HG2.out;omega
end Go.Proofs.YtehbinobohjadaaGreatDoor

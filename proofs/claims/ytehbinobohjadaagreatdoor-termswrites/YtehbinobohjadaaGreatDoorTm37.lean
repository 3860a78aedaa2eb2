import Derived.Test.YtehbinobohjadaaGreatDoorTm00
import Derived.Test.YtehbinobohjadaaGreatDoorTm36
import Derived.Test.YtehbinobohjadaaGreatDoorTm21
import Derived.Test.YtehbinobohjadaaGreatDoorTm35
set_option maxHeartbeats 20000000
set_option maxRecDepth 20000
namespace Go.Proofs.YtehbinobohjadaaGreatDoor
open Go.RowKit Go.Extern.Stop Go.Stop Go.Extern
set_option linter.unusedSectionVars false
variable [Inhabited TP]
theorem UL{s:ByteArray}(h:IC s=true):∃(K:ByteArray),dB s=⟨.w,K,0,0⟩::DB s.size (s.data.toList.drop K.size) K.size∧(K=wDefine∨K=wRule∨K=wAmount∨K=wDuty)∧∃r,s.data.toList=K.data.toList++32::r:=by
 obtain⟨K,r,e,hK⟩:=TL h
 have hK2:∃c K',K=c::K'∧PB c=true∧c≠32∧∀x,x∈K→JA x=true:=by
  rcases hK with rfl|rfl|rfl|rfl
  ·exact⟨100,[101,102,105,110,101],rfl,by decide,by decide,by decide⟩
  ·exact⟨114,[117,108,101],rfl,by decide,by decide,by decide⟩
  ·exact⟨97,[109,111,117,110,116],rfl,by decide,by decide,by decide⟩
  ·exact⟨100,[117,116,121],rfl,by decide,by decide,by decide⟩
 obtain⟨c,K',eK,hc,h32,hw⟩:=hK2
 have e1:wA s.data.toList=(.w,K.length):=by
  rw[e]
  have e2:K++32::r=c::(K'++32::r):=by rw[eK];rfl
  rw[e2,PC,if_pos hc,←e2,nO hw]
 have e3:dB s=VC s.data.toList 0::DB s.size (s.data.toList.drop K.length) (0+K.length):=by
  unfold dB
  have e4:s.data.toList=c::(K'++32::r):=by rw[e,eK];rfl
  conv=>lhs;rw[e4,DB,if_neg h32,←e4,e1]
 refine⟨⟨K.toArray⟩,?_,?_,r,e⟩
 ·rw[e3,show (⟨K.toArray⟩:ByteArray).size=K.length from rfl,Nat.zero_add]
  congr 1
  unfold VC
  rw[e1,e,List.take_left' rfl]
 ·rcases hK with rfl|rfl|rfl|rfl
  ·exact .inl rfl
  ·exact .inr (.inl rfl)
  ·exact .inr (.inr (.inl rfl))
  ·exact .inr (.inr (.inr rfl))
theorem iJ{s:ByteArray}{f:Nat}{x:SentW}(h:EF s f=.ok x):SmallN x.cond∧SmallN x.sum∧x.over.length≤100000000:=by
 obtain⟨h1,h2,k,n,h3⟩:=ZN h
 have W:WfL (dB s):=sN (tG _ _ _)
 have o:=AR W h3
 refine⟨o.2.2.1,o.2.2.2.1,?_⟩
 have hl:=(LE s (by omega)).1.len
 have h4:=o.2.2.2.2
 rcases Nat.lt_or_ge 1 k with q|q
 ·have:=(o.1.2 (k - 1) (by omega) (by omega)).2.2.2
  omega
 ·omega
theorem eP{s:ByteArray}{f:Nat}{x:SentW}(h:EF s f=.ok x)(hf:f+8≤1000 * (s.size+1)):∃L k,LineR x s L k:=by
 obtain⟨h1,h2,k,n,h3⟩:=ZN h
 obtain⟨K,e,hK,hcut⟩:=UL h1
 have hkp:=(sL hK).2.1
 have lok:=(LE s (by omega)).1
 have W:WfL (dB s):=sN (tG _ _ _)
 have o:=AR W h3
 obtain⟨ts,hts⟩:∃ts,ts=DB s.size (s.data.toList.drop K.size) K.size:=⟨_,rfl⟩
 rw[←hts] at e
 have hwf:∀t,t∈ts→WfT t:=fun t ht=>by rw[hts] at ht;exact tG _ _ _ _ ht
 have hat:∀(i:Nat) (t:Tok),ts[i]?=some t→(dB s)[i+1]?=some t:=fun i t hi=>by rw[e];exact hi
 have hlen:(dB s).length=ts.length+1:=by rw[e];rfl
 have IS:∀(i:Nat) (t:Tok),ts[i]?=some t→t.kind≠.b∧(t.kind=.w→t.text.size≤24)∧(t.kind=.n→BE t.text≤12):=fun i t hi=>by
  have hi2:=hat i t hi
  have et:cA (dB s) (i+1)=t:=by unfold cA;rw[hi2];rfl
  rcases Nat.lt_or_ge (i+1) k with q|q
  ·have:=o.1.2 (i+1) (by omega) q
   unfold OkT at this
   rw[et] at this
   exact⟨this.1,this.2.1,this.2.2.1⟩
  ·have hke:t.kind=.e:=by
    rcases KG (dB s) k with ⟨u,hu,eu⟩|⟨hu,_⟩
    ·have h5:=o.2.1
     rw[eu] at h5
     have h6:=(lok.lastE k u hu).2 h5
     have h7:=(List.getElem?_eq_some_iff.1 hi2).1
     exact(lok.lastE (i+1) t hi2).1 (by omega)
    ·have h7:=(List.getElem?_eq_some_iff.1 hi2).1
     omega
   rw[hke]
   exact⟨by decide,fun q=>(by cases q),fun q=>(by cases q)⟩
 have hdl:(s.data.toList.drop K.size).length<s.size:=by
  obtain⟨r,er⟩:=hcut
  have h5:=congrArg List.length er
  rw[xA,List.length_append,xA,List.length_cons] at h5
  rw[List.length_drop,xA]
  omega
 have hT:VH s K.size=ts:=by
  unfold VH
  rw[hts]
  refine lN _ _ _ _ hdl (by omega) fun t ht=>?_
  rw[←hts] at ht
  obtain⟨i,hi⟩:=List.getElem?_of_mem ht
  exact IS i t hi
 have Wt:=sN hwf
 have g:GoodL ts:=by
  refine⟨fun i hi hk=>?_,fun i hk=>?_,fun i hk=>?_,fun i hk=>Wt.w i hk,fun i hk=>Wt.n i hk⟩
  ·have hg:ts[i]?=some ts[i]:=List.getElem?_eq_getElem hi
   have et:cA ts i=ts[i]:=by unfold cA;rw[hg];rfl
   have h5:=lok.lastE (i+1) _ (hat _ _ hg)
   rw[et] at hk
   have h6:¬i+1+1=(dB s).length:=fun q=>hk (h5.1 q)
   omega
  ·rcases KG ts i with ⟨t,ht,et⟩|⟨_,et⟩
   ·rw[et] at hk ⊢
    have h5:=(lok.lastE _ _ (hat _ _ ht)).2 hk
    have h6:=(lok.last _ _ (hat _ _ ht)).1 h5
    rw[Lib.toList_data]
    exact List.eq_nil_of_length_eq_zero (by rw[xA];exact h6)
   ·rw[et]
    show (ByteArray.toList ⟨#[]⟩)=[]
    rw[Lib.toList_data]
  ·rcases KG ts i with ⟨t,ht,et⟩|⟨_,et⟩
   ·rw[et] at hk
    exact(IS i t ht).1 hk
   ·rw[et] at hk
    cases hk
 rw[e] at h3
 obtain⟨hx,j,hj⟩:=FT g Wt.s hK h3
 refine⟨ts,j,by rw[hx];exact hK,by rw[hx];exact hcut,h2,by rw[hx];exact hT,g,?_⟩
 rw[hx]
 exact hj _ hf
end Go.Proofs.YtehbinobohjadaaGreatDoor
namespace Go.Proofs.YtehbinobohjadaaGreatDoor
open Go.RowKit Go.Extern.Stop Go.Stop Go.Extern
set_option maxRecDepth 10000 in
theorem JP{L:List Tok}{bp tb cp f:Nat}{w:World}{k n k' n':Nat}{K:ByteArray}{x:SentW}(hK:K=wAmount)(h:POk L bp tb cp w k n)(hA:OD L bp tb cp 66 (zA L f))(hS:OD L bp tb cp 67 (IB L f))(he:FF L f K k n=.ok x k' n'):
 Calls Tryz.prog 31 #[.pointer (some ⟨bp,0,none⟩),.string K] w fun e w'=>XK L bp tb cp w x k' n' e w':=by
 have twRule:(K.toList==[114,117,108,101])=false:=CH hK (by decide)
 have twDefine:(K.toList==[100,101,102,105,110,101])=false:=CH hK (by decide)
 have twAmount:(K.toList==[97,109,111,117,110,116])=true:=JM hK (by decide)
 have iwRule:¬vA K wRule=true:=by unfold vA;rw[Lib.toList_data wRule];show ¬(K.toList==[114,117,108,101])=true;rw[twRule];simp
 have iwDefine:¬vA K wDefine=true:=by unfold vA;rw[Lib.toList_data wDefine];show ¬(K.toList==[100,101,102,105,110,101])=true;rw[twDefine];simp
 have iwAmount:vA K wAmount=true:=by unfold vA;rw[Lib.toList_data wAmount];exact twAmount
 unfold FF at he
 obtain⟨nm,k1,n1,e1,he⟩:=PR.bind_okE he
 rw[if_neg iwRule,PR.bind_ok] at he
 obtain⟨_,k2,n2,e2,he⟩:=PR.bind_okE he
 rw[if_neg iwDefine,if_pos iwAmount] at he
 obtain⟨y,k3,n3,e3,he⟩:=PR.bind_okE he
 obtain⟨z,k4,n4,e4,he⟩:=PR.bind_okE he
 obtain⟨b,k5,n5,e5,he⟩:=PR.bind_okE he
 have HS0:=aA (RSt.start h K)
 have hbl:=h.s.in
 have HNm:=aA (SF HS0.out.p e1)
 have HE:=aA (aI e2 (aI e3 (aI e4 (aI e5 he))))
 have HAr:=aA hA
 have HSu:=aA hS
 clear e1 e2 e3 e4 e5 he h hA hS hK iwRule iwDefine iwAmount
 go_enter Tryz.func31,Tryz.ntmps31
 go_upto_region 2 with (refine qE rfl _ rfl K (by simp[Act.eval]) ?_)
 obtain⟨W1,hW1⟩:∃W1,W1=w.alloc (.cells (tB K) 47):=⟨_,rfl⟩
 rw[←hW1] at HS0 HNm ⊢
 have hs1:w.heap.size<W1.heap.size:=by rw[hW1];simp
 clear hW1
 go_upto_region 3 with (go_at_call 63;refine HNm.out.mono ?_;rintro e W1a ⟨rfl,hp,hb⟩;have hs2:=HS0.out.call hp hb;obtain⟨c1,x1⟩:=hs2.cell (i:=1) (by omega);have xf:=hs2.froz;have hz1:=hb.size;have G1:=aA (aI hs2 hb);clear hp hb hs2)
 obtain⟨W1,hW⟩:∃V,V=W1a.setCell ⟨w.heap.size,1,none⟩ (.string nm):=⟨_,rfl⟩
 rw[←hW]
 have H1:Hid (RSt L bp tb cp w.heap.size w W1 k1 n1 ((tB K).setIfInBounds 1 (.string nm))):=by show RSt _ _ _ _ _ _ _ _ _ _;rw[hW];exact G1.out.1.set 1 _
 clear hW x1 xf G1 HS0
 have HNd:=aA (dH (s:=⟨#[58]⟩) H1.out.p HE.out.1)
 go_upto_region 16 with (go_at_call 65;refine HNd.out.mono ?_;rintro e W2 ⟨rfl,hp,hb⟩;have hz2:=hb.size;have H2:=aA (H1.out.call hp hb);have G2:=aA hb;clear hp hb)
 clear G2 H1
 have HR3:=aA (UM HSu.out H2.out.p HE.out.2.1)
 go_upto_region 17 with (go_at_call 67;refine HR3.out.mono ?_;rintro e W3a ⟨s30,s31,s32,a3,m3,q3,rfl,hp,hN,hb⟩;have hs2:=H2.out.call hp hb;obtain⟨c0,x0⟩:=hs2.cell (i:=9) (by omega);obtain⟨c1,x1⟩:=hs2.cell (i:=10) (by omega);obtain⟨c2,x2⟩:=hs2.cell (i:=11) (by omega);obtain⟨c3,x3⟩:=hs2.cell (i:=12) (by omega);have xf:=hs2.froz;have hz3:=hb.size;have G3:=aA (aI hs2 (aI hN hb));clear hp hb hN hs2)
 obtain⟨W3,hW⟩:∃V,V=((((W3a).setCell ⟨w.heap.size,9,none⟩ (.string s30)).setCell ⟨w.heap.size,10,none⟩ (.string s31)).setCell ⟨w.heap.size,11,none⟩ (.int .i64 s32)).setCell ⟨w.heap.size,12,none⟩ (.slice a3 m3 q3):=⟨_,rfl⟩
 rw[←hW]
 have H3:Hid (RSt L bp tb cp w.heap.size w W3 k3 n3 (uA ((tB K).setIfInBounds 1 (.string nm)) 9 (.string s30) (.string s31) (.int .i64 s32) (.slice a3 m3 q3))):=by show RSt _ _ _ _ _ _ _ _ _ _;rw[hW];exact(((G3.out.1.set 9 _).set 10 _).set 11 _).set 12 _
 have hin3:=H2.out.in
 have hlo3:=H2.out.b.size
 have M3:Hid (NIn w W3 w.heap.size (nv (.string s30) (.string s31) (.int .i64 s32) (.slice a3 m3 q3)) y):=by
  show NIn _ _ _ _ _
  rw[hW]
  exact((((show NIn w W3a w.heap.size _ _ from G3.out.2.1.step fun b _ hp=>⟨rfl,by omega,by omega⟩).set 9 _).set 10 _).set 11 _).set 12 _
 clear hW x0 x1 x2 x3 xf G3 HR3 H2
 have HC4:=aA (vI H3.out (⟨by simp[uA,tB],by simp[uA,tB],by simp[uA,tB],by simp[uA,tB]⟩) HAr.out HE.out.2.2.1)
 go_upto_region 18 with (go_at_call 68;refine HC4.out.mono ?_;rintro e W4 ⟨rfl,hb,a4,b4,c4,d4,hs2,hN⟩;have hz4:=hb.size;have H4:=aA hs2;have G4:=aA hb;have N4:=aA hN;clear hb hs2 hN)
 have M4:=aA (M3.out.y G4.out hbl)
 clear G4 HC4 H3
 clear M3
 have HTk:=aA (xF (s:=⟨#[59]⟩) H4.out.p HE.out.2.2.2.1)
 go_upto_region 19 with (go_at_call 64;refine HTk.out.mono ?_;rintro e W5 ⟨rfl,hp,hb⟩;have hz5:=hb.size;have H5:=aA (H4.out.call hp hb);have G5:=aA hb;clear hp hb)
 have M5:=aA (M4.out.call G5.out hbl)
 have N5:=aA (N4.out.call G5.out hbl)
 clear G5 H4
 clear M4
 clear N4
 have HFi:=aA HE.out.2.2.2.2
 clear HE
 cases b with
 |false=>
  rw[if_neg (by simp)] at HFi
  have h9:=HFi.out
  injection h9 with he ek en
  subst he ek en
  clear HFi
  go_wp2
  go_ret
  refine⟨w.heap.size,_,rfl,H5.out,?_⟩
  exact⟨H5.out.z,by simp[uA,tB],by simp[uA,tB],by simp[uA,tB],by simp[uA,tB],by simp[uA,tB],⟨_,iG (by simp[uA,tB]) (by simp[uA,tB]) (by simp[uA,tB]) (by simp[uA,tB]),N5.out.nl⟩,⟨_,iG (by simp[uA,tB]) (by simp[uA,tB]) (by simp[uA,tB]) (by simp[uA,tB]),M5.out.nl⟩,by simp[uA,tB],⟨.slice none 0 0,w.heap.size,by simp[uA,tB],nR _,⟨rfl,.inl ⟨rfl,rfl⟩⟩⟩,by simp[uA,tB],by simp[uA,tB],by simp[uA,tB],by simp[uA,tB]⟩
 |true=>
  rw[if_pos rfl] at HFi
  obtain⟨_,k6,n6,e6,he⟩:=PR.bind_okE HFi.out
  obtain⟨wy,k7,n7,e7,he⟩:=PR.bind_okE he
  injection he with he ek en
  subst he ek en
  have HE7:=aA e7
  have HNd2:=aA (dH (s:=⟨#[114,111,117,110,100]⟩) H5.out.p e6)
  clear HFi e6 e7
  go_upto_region 21 with (go_at_call 65;refine HNd2.out.mono ?_;rintro e W6 ⟨rfl,hp,hb⟩;have hz6:=hb.size;have H6:=aA (H5.out.call hp hb);have G6:=aA hb;clear hp hb)
  have M6:=aA (M5.out.call G6.out hbl)
  have N6:=aA (N5.out.call G6.out hbl)
  clear G6 H5
  clear M5
  clear N5
  have hbu:Below W6.heap.size W6 (W6.alloc (.cells #[.string ⟨#[100,111,119,110]⟩,.string ⟨#[117,112]⟩,.string ⟨#[102,108,111,111,114]⟩,.string ⟨#[99,101,105,108]⟩,.string ⟨#[104,97,108,102,95,117,112]⟩,.string ⟨#[104,97,108,102,95,101,118,101,110]⟩] 9)):=bA _ _
  have HU:=aA (H6.out.grow hbu)
  have Mu:=aA (M6.out.grow hbu)
  have Nu:=aA (N6.out.grow hbu)
  have hzu:W6.heap.size≤(W6.alloc (.cells #[.string ⟨#[100,111,119,110]⟩,.string ⟨#[117,112]⟩,.string ⟨#[102,108,111,111,114]⟩,.string ⟨#[99,101,105,108]⟩,.string ⟨#[104,97,108,102,95,117,112]⟩,.string ⟨#[104,97,108,102,95,101,118,101,110]⟩] 9)).heap.size:=by simp
  have HOn:=aA (xK (b:=W6.heap.size) (c:=6) HU.out.p (by decide) (qN W6) HE7.out)
  clear hbu
  go_upto_region 22 with (go_at_call 69;refine HOn.out.mono ?_;rintro e W7a ⟨rfl,hp,hb⟩;have hs2:=HU.out.call hp hb;obtain⟨c1,x1⟩:=hs2.cell (i:=13) (by omega);have xf:=hs2.froz;have hz7:=hb.size;have G7:=aA (aI hs2 hb);clear hp hb hs2)
  obtain⟨W7,hW⟩:∃V,V=W7a.setCell ⟨w.heap.size,13,none⟩ (.int .i64 wy):=⟨_,rfl⟩
  rw[←hW]
  have H7:Hid (RSt L bp tb cp w.heap.size w W7 k7 n7 ((uA (uA ((tB K).setIfInBounds 1 (.string nm)) 9 (.string s30) (.string s31) (.int .i64 s32) (.slice a3 m3 q3)) 5 a4 b4 c4 d4).setIfInBounds 13 (.int .i64 wy))):=by show RSt _ _ _ _ _ _ _ _ _ _;rw[hW];exact G7.out.1.set 13 _
  have M7:Hid (NIn w W7 w.heap.size (nv (.string s30) (.string s31) (.int .i64 s32) (.slice a3 m3 q3)) y):=by show NIn _ _ _ _ _;rw[hW];exact(Mu.out.call G7.out.2 hbl).set 13 _
  have N7:Hid (NIn w W7 w.heap.size (nv a4 b4 c4 d4) z):=by show NIn _ _ _ _ _;rw[hW];exact(Nu.out.call G7.out.2 hbl).set 13 _
  clear hW x1 xf G7 HU
  clear Mu
  clear Nu
  go_wp2
  go_ret
  refine⟨w.heap.size,_,rfl,H7.out,?_⟩
  exact⟨H7.out.z,by simp[uA,tB],by simp[uA,tB],by simp[uA,tB],by simp[uA,tB],by simp[uA,tB],⟨_,iG (by simp[uA,tB]) (by simp[uA,tB]) (by simp[uA,tB]) (by simp[uA,tB]),N7.out.nl⟩,⟨_,iG (by simp[uA,tB]) (by simp[uA,tB]) (by simp[uA,tB]) (by simp[uA,tB]),M7.out.nl⟩,by simp[uA,tB],⟨.slice none 0 0,w.heap.size,by simp[uA,tB],nR _,⟨rfl,.inl ⟨rfl,rfl⟩⟩⟩,by simp[uA,tB],by simp[uA,tB],by simp[uA,tB],by simp[uA,tB]⟩
end Go.Proofs.YtehbinobohjadaaGreatDoor

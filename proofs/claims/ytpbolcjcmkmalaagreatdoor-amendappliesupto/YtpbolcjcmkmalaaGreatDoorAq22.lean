import Derived.Test.YtpbolcjcmkmalaaGreatDoorAq00
import Derived.Test.YtpbolcjcmkmalaaGreatDoorAq19
import Derived.Deep.LoopGhost
import Derived.Deep.AppendSrc
set_option maxHeartbeats 20000000
set_option maxRecDepth 20000
namespace Go.Proofs.YtpbolcjcmkmalaaGreatDoor
open Go.RowKit Go.Extern.Stop Go.Stop Go.Extern
theorem UR:∃i z,Tryz.prog.info? nJ=some i∧i.zero=some z∧i.size=encE.k∧i.bytes=40∧z.cells.size=encE.k:=by
 have h:(Tryz.prog.info? nJ).map (fun i=>(i.zero.map (fun z=>z.cells.size),i.size,i.bytes))=some (some 3,3,40):=by kernel_rfl
 cases hi:Tryz.prog.info? nJ with
 |none=>rw[hi] at h;cases h
 |some i=>
  rw[hi] at h
  simp only[Option.map_some,Option.some.injEq,Prod.mk.injEq] at h
  cases hz:i.zero with
  |none=>rw[hz] at h;simp at h
  |some z=>
   rw[hz] at h
   simp only[Option.map_some,Option.some.injEq] at h
   exact⟨i,z,rfl,hz,h.2.1,h.2.2,h.1⟩
theorem BelX.down2{B x n:Nat}{a w:World}(h:BelX B x a w)(h1:n≤B)(h2:n≤x):Below n a w:=⟨h.os,h.tape,h.output,h.size,fun k hk=>h.block k (by omega) (by omega)⟩
theorem bR{w:World}{N sb mb b o:Nat}{t:It}{ex:Prop}(h:SC w sb mb ex (fun _ _=>False))(hN:N≤w.heap.size)(hsb:N≤sb)(hmb:N≤mb)(ht:TreeF w N ex b o t)(hsz:EB t≤400000):
 Calls Tryz.prog 67 #[.pointer (some ⟨sb,0,none⟩),.pointer (some ⟨b,o,none⟩)] w fun e w'=>∃x:Int,e=.returned (.int .i64 x)∧(ex→x=EB t)∧Below N w w':=by
 obtain⟨ka,kc,hn,hc,hl,hb,hp,hk⟩:=ht.parts
 have HT:=aA (FP h hn hp)
 by_cases h0:t.kids.length=0
 ·have HW:Hid ((1:Int)+t.lines.length=EB t):=by
   show _=_
   have:=ZB t
   rw[List.eq_nil_of_length_eq_zero h0,JB] at this
   omega
  have H0:=aA h0
  clear h0 hn hc hl hk ht h
  go_enter Tryz.func67,Tryz.ntmps67
  go_wp2_with fail
  refine HT.out.mono ?_
  rintro e w1 ⟨x,is,k,rfl,h1,_,rfl⟩
  obtain⟨rfl,rfl⟩:=h1 H0.out
  go_wp2
  go_ret
  exact⟨_,rfl,fun _=>HW.out,FA (Below.refl _ _) _⟩
 ·have hbm:b≠mb:=by omega
  have HB:=aA (fun k:Nat=>fM (ka:=ka) (kc:=kc) (F':=MF w N ex ([]++[⟨b,o,ka,kc,t.kids,1+t.lines.length,t⟩])) (h.drewN k) (hn.on (w':=w.drewN k) rfl) hp hbm (fun _ _ h=>h.elim) (MF.open (E:=[]) ht hb).2.1 (fun _ _ h=>h.elim))
  have HI:Hid (∀w2,SC w2 sb mb ex (MF w N ex ([]++[⟨b,o,ka,kc,t.kids,1+t.lines.length,t⟩]))→BelX w.heap.size mb w w2→WgI w N sb mb ex (EB t) 0 (.slice (some ⟨w2.heap.size,0,none⟩) 1 1) [⟨b,o,ka,kc,t.kids,1+t.lines.length,t⟩] (w2.alloc (.cells #[.pointer (some ⟨b,o,none⟩),.slice ka t.kids.length kc,.int .i64 (1+t.lines.length)] nJ))):=fun w2 hs hx=>by
   refine⟨⟨World.ownsRow_lit w2 _ 1 hx.size (by decide) rfl,by simp⟩,hs.below (bA _ _),hx.trans (Below.x (bA _ _) mb hx.size),fun e he=>?_,by simp,fun _=>⟨?_,rfl⟩⟩
   ·obtain rfl:e=_:=by simpa using he
    exact .of ht hc hl hk (by omega) (by have:=ZB t;omega)
   ·show (1:Int)+t.lines.length+JB t.kids+0=EB t
    have:=ZB t
    omega
  have H0:=aA h0
  have hmA:bC [⟨b,o,ka,kc,t.kids,1+t.lines.length,t⟩]≤800000:=by
   show 1+2 * JB t.kids+0≤_
   have:=ZB t
   omega
  have HS:=aA (aI h.lt (aI h.mp.lt (aI hN (aI hsb hmb))))
  have HmA:=aA hmA
  obtain⟨tot,htot⟩:∃tot,tot=EB t:=⟨_,rfl⟩
  have HTo:Hid (tot≤400000):=by show _≤_;omega
  rw[←htot] at HI ⊢
  clear h0 hn hc hl hk ht h hmA htot hp hb hsz
  generalize t.kids.length=kn at *
  go_enter Tryz.func67,Tryz.ntmps67
  go_wp2_with fail
  refine HT.out.mono ?_
  rintro e w1 ⟨x,is,k,rfl,_,h1,rfl⟩
  have hi:is=false:=by
   cases is
   ·rfl
   ·obtain⟨c,hc,_⟩:=h1 H0.out rfl
    exact hc.elim
  subst hi
  clear h1 HT
  go_wp2_with fail
  refine(HB.out k).mono ?_
  rintro e w2 ⟨rfl,hs2,hf2⟩
  have hI:=HI.out w2 hs2 ⟨hf2.os,hf2.tape,hf2.output,hf2.size,fun q hq hn=>hf2.block q hq hn⟩
  have HI2:=aA hI
  clear hI hs2 hf2 HI HB
  go_wp2_with fail
  go_loopg [7] (bC [⟨b,o,ka,kc,t.kids,1+t.lines.length,t⟩]) (fun k v wr=>∃E,E≠[]∧bC E≤k∧k≤800000∧WgI w N sb mb ex tot 0 v E wr)
  case atStart=>exact⟨_,by simp,nR _,HmA.out,HI2.out⟩
  case round=>
   obtain⟨E,hE,hm,hk8,hI⟩:=hrel
   clear HI2
   obtain⟨E0,e,rfl⟩:∃E0 e,E=E0++[e]:=by
    rcases List.eq_nil_or_concat E with h1|⟨a,b,hab⟩
    ·exact absurd h1 hE
    ·exact⟨a,b,by rw[hab,List.concat_eq_append]⟩
   obtain⟨g,cap,rfl,hgw,hgs,hgm,hgl,hgf,c0,c1,c2,hcap⟩:=hI.top
   obtain⟨s0,s1,s2,s3,s4,s5⟩:=nU hI.sc.bk
   have hok:=hI.ok e (by simp)
   obtain⟨m0,hm0⟩:∃m0,m0=E0.length:=⟨_,rfl⟩
   rw[←hm0] at c0 c1 c2 hcap ⊢
   have hlen:m0+1≤800000:=by have:=GK (E0++[e]);rw[List.length_append] at this;simp at this;omega
   have hmz:(m0:Int)<(m0:Int)+1:=by omega
   have HI:=aA hI
   have HM:=aA (aI hm (aI hk8 hm0))
   have HG:=aA (aI hgw (aI hgs (aI hgm hgl)))
   clear hI hm hk8 hm0 hE hgw hgs hgl s0 s1 s2 s4
   by_cases hls:e.ls=[]
   ·have HL:=aA hls
    rw[hls] at c1
    clear hls
    obtain⟨w3,hrun,hf3,hx3,hnext⟩:=HI.out.upd HS.out.2.2.1 HS.out.2.2.2.2 HL.out
    have s5':w3.cell? ⟨sb,5,none⟩=some (.map (some mb)):=(World.cell?_of_block (a:=⟨sb,5,none⟩) (hf3.block sb HI.out.sc.lt HI.out.sc.ne)).trans s5
    have s3':w3.cell? ⟨sb,3,none⟩=some (.int .i64 67108864):=(World.cell?_of_block (a:=⟨sb,3,none⟩) (hf3.block sb HI.out.sc.lt HI.out.sc.ne)).trans s3
    have c0':w3.cell? ⟨g,m0 * 3,none⟩=some (.pointer (some ⟨e.nb,e.no,none⟩)):=(World.cell?_of_block (a:=⟨g,m0 * 3,none⟩) (hf3.block g HG.out.2.2.2 hgm)).trans c0
    have HX:=aA (aI hx3 (hnext g cap rfl))
    have hx01:=aI hok.x0 hok.x1
    have HOk:=aA hok
    clear hf3 hx3 hnext hgm hok
    by_cases h00:E0=[]
    ·subst h00
     have HM0:Hid (m0=0):=by show _=_;rw[HM.out.2.2];rfl
     have hm0:=HM0.out
     subst hm0
     clear hx01
     go_wp2_with fail
     go_region_held3 (fun V=>V.cell? ⟨sb,5,none⟩=some (.map (some mb))∧V.cell? ⟨g,0 * 3,none⟩=some (.pointer (some ⟨e.nb,e.no,none⟩))) (first|exact⟨s5,c0⟩|exact⟨s5',c0'⟩|go_keep) (fail)
     all_goals go_wp2_with fail
     all_goals go_ret
     all_goals exact⟨e.x,rfl,fun hx=>HX.out.2.ch hx,BelX.down2 HX.out.2.fr HS.out.2.2.1 HS.out.2.2.2.2⟩
    ·obtain⟨E1,e1,h01⟩:∃E1 e1,E0=E1++[e1]:=by
      rcases List.eq_nil_or_concat E0 with h1|⟨a,b,hab⟩
      ·exact absurd h1 h00
      ·exact⟨a,b,by rw[hab,List.concat_eq_append]⟩
     obtain⟨m1,hm1⟩:∃m1,m1=E1.length:=⟨_,rfl⟩
     have hm01:m0=m1+1:=by rw[HM.out.2.2,h01,hm1];simp
     have hI3:=HX.out.2
     rw[h01] at hI3
     rw[show (E1++[e1]).length=m1+1 by rw[hm1];simp] at hI3
     obtain⟨g',cap',hv',hgw',hgs',hgm',hgl',hgf',d0,d1,d2,_⟩:=hI3.top
     rw[←hm1] at hv' d0 d1 d2
     injection hv' with hv' _ hv2
     injection hv' with hv'
     injection hv' with hv' _ _
     subst hv' hv2
     have hok1:=hI3.ok e1 (by simp)
     have HA:=aA (dR (x:=e1.x) (y:=e.x) s3' hgs' d1 d2 hgf' (aI hok1.x0 hok1.x1) hx01)
     have HN3:Hid (∀w4,OM w3 g (m1 * 3) (min (e1.x+e.x) 67108865) w4→∃E',E'≠[]∧bC E'≤bC E0∧WgI w N sb mb ex tot 0 (.slice (some ⟨g,0,none⟩) (m1+1) cap) E' w4):=fun w4 ha=>by
      rw[hm1] at ha hI3 ⊢
      obtain⟨e',h1,h2⟩:=hI3.addR (fun _=>by have:=HTo.out;omega) hgw' hgs' hgm' hx01 (fun _=>rfl) ha
      exact⟨_,by simp,by rw[h01];exact h2,h1⟩
     have HMl:Hid (bC E0<gk∧bC E0≤800000):=by
      have h1:=HM.out.1
      have h2:=HM.out.2.1
      rw[wB] at h1
      exact⟨by omega,by omega⟩
     have hm1z:(m1:Int)<(m1:Int)+1:=by omega
     subst hm01
     clear hI3 hok1 d0 d1 d2 hgf' hx01 hgw' hgs' hgm' hgl' hm1 h01
     go_wp2_with fail
     go_region_held3 (fun V=>V.cell? ⟨sb,5,none⟩=some (.map (some mb))∧V.cell? ⟨g,(m1+1) * 3,none⟩=some (.pointer (some ⟨e.nb,e.no,none⟩))) (first|exact⟨s5,c0⟩|exact⟨s5',c0'⟩|go_keep) (fail)
     all_goals go_wp2_with fail
     all_goals refine HA.out.mono ?_
     all_goals rintro e9 w4 ⟨rfl,ha⟩
     all_goals obtain⟨E',h91,h92,h93⟩:=HN3.out _ ha
     all_goals go_wp2_with fail
     all_goals go_roundg (bC E0)
     all_goals first|exact HMl.out.1|exact⟨E',h91,h92,HMl.out.2,h93⟩
   ·obtain⟨k,r,hls'⟩:∃k r,e.ls=k::r:=by
     cases hq:e.ls with
     |nil=>exact absurd hq hls
     |cons k r=>exact⟨k,r,rfl⟩
    obtain⟨kg,kq,hla⟩:=hok.ks.a hls
    have hcp:=hok.cap
    have hks:=hok.ks
    rw[hls',List.length_cons] at hcp c1
    rw[hla] at c1 hks
    rw[hls'] at hks
    obtain⟨la',hla'⟩:∃la',(if e.lc=1 then some (⟨kg,kq,none⟩:Addr) else some ⟨kg,kq+4,none⟩)=la':=⟨_,rfl⟩
    have HKr:=aA (hla'▸hks.tail hcp)
    have HKh:=aA hks.head
    have HLt:=aA (HI.out.kid_lt hls')
    have HLs:=aA hls'
    have hcz:(1:Int)≤(e.lc:Int):=by omega
    have hT:=HI.out.take HS.out.2.2.1 HG.out.1 HG.out.2.1 hgm hls' HKr.out
    rw[←HM.out.2.2] at hT
    clear hls hls' hks hok
    generalize hrl:r.length=rl at *
    generalize hlc:e.lc=lc at *
    obtain⟨W2,hW2⟩:∃W2,W2=wr.setCell ⟨g,m0 * 3+1,none⟩ (.slice la' rl (lc - 1)):=⟨_,rfl⟩
    rw[←hW2] at hT
    obtain⟨g',cap',hv',_,_,_,hgl2,hgf2,d0,d1,d2,_⟩:=hT.top
    rw[←HM.out.2.2] at hv' d0 d1 d2
    injection hv' with hv' _ hv2
    injection hv' with hv'
    injection hv' with hv' _ _
    subst hv' hv2
    obtain⟨_,_,_,t3,_,t5⟩:=nU hT.sc.bk
    obtain⟨ka2,kc2,hn2,hc2,hl2,hb2,hp2,hk2⟩:=HKh.out.parts
    have hlow:=hT.low HS.out.2.2.1 HS.out.2.2.2.2
    have hn2':=hn2.on (hlow kg hb2)
    have HTo2:=aA (FP hT.sc hn2' (fun hx=>(hp2 hx).on (hlow kg hb2)))
    have hlt2:∀a,a∈E0++[{e with la:=la',lc:=lc - 1,ls:=r}]→EB k<EB a.t:=fun a ha=>by
     rcases List.mem_append.1 ha with ha|ha
     ·exact HLt.out a (by simp[ha])
     ·obtain rfl:a=_:=by simpa using ha
      exact HLt.out e (by simp)
    have HA2:Hid (∀(x:Int) (is:Bool),(k.kids.length=0→is=true∧x=1+k.lines.length)→(k.kids.length≠0→is=true→∃c,MF w N ex (E0++[{e with la:=la',lc:=lc - 1,ls:=r}]) c x∧(ex→c=⟨kg,kq,none⟩))→is=true→0≤x∧x≤67108865∧(ex→x=EB k)):=fun x is g1 g2 hi=>by
     by_cases hz:k.kids.length=0
     ·obtain⟨_,rfl⟩:=g1 hz
      have h1:=ZB k
      rw[List.eq_nil_of_length_eq_zero hz,JB] at h1
      have:=hn2.hm
      exact⟨by omega,by omega,fun _=>by omega⟩
     ·obtain⟨c,hc,hce⟩:=g2 hz hi
      exact hc.told hce HKh.out hlt2 hT.ok
    have HAd:Hid (∀(y:Int) (k2:Nat),0≤y∧y≤67108865→Calls Tryz.prog 105 #[.pointer (some ⟨sb,0,none⟩),.pointer (some ⟨g,m0 * 3,none⟩),.int .i64 y] (W2.drewN k2) fun e' w'=>e'=.returned (.tuple #[])∧OM (W2.drewN k2) g (m0 * 3) (min (e.x+y) 67108865) w'):=fun y k2 hy=>dR (w:=W2.drewN k2) t3 HG.out.2.1 d1 d2 hgf2 ⟨(hT.ok {e with la:=la',lc:=lc - 1,ls:=r} (by simp)).x0,(hT.ok {e with la:=la',lc:=lc - 1,ls:=r} (by simp)).x1⟩ hy
    have HBg:Hid (∀k2:Nat,Calls Tryz.prog 104 #[.pointer (some ⟨sb,0,none⟩),.pointer (some ⟨kg,kq,none⟩)] (W2.drewN k2) fun e' w'=>e'=.returned (.agg #[.pointer (some ⟨kg,kq,none⟩),.slice ka2 k.kids.length kc2,.int .i64 (1+k.lines.length)])∧SC w' sb mb ex (MF w N ex (E0++[{e with la:=la',lc:=lc - 1,ls:=r}]++[⟨kg,kq,ka2,kc2,k.kids,1+k.lines.length,k⟩]))∧MpF (W2.drewN k2) w' mb):=fun k2=>by
     obtain⟨m1,m2,m3⟩:=MF.open (E:=E0++[{e with la:=la',lc:=lc - 1,ls:=r}]) (ka:=ka2) (kc:=kc2) (x:=1+k.lines.length) HKh.out hb2
     exact fM (hT.sc.drewN k2) (hn2'.on (w':=W2.drewN k2) rfl) (fun hx=>(hp2 hx).on (hlow kg hb2)) (by have:=HS.out.2.2.2.2;omega) m1 m2 m3
    have HE:Hid (∀(y:Int) (w4:World) (k2:Nat),0≤y∧y≤67108865→(ex→y=EB k)→OM (W2.drewN k2) g (m0 * 3) (min (e.x+y) 67108865) w4→∃E',E'≠[]∧bC E'+1≤bC (E0++[e])∧WgI w N sb mb ex tot 0 (.slice (some ⟨g,0,none⟩) (m0+1) cap) E' w4):=fun y w4 k2 hy hyx ha=>by
     have ha:OM W2 g (m0 * 3) (min (e.x+y) 67108865) w4:=ha
     rw[HM.out.2.2] at ha hT ⊢
     obtain⟨e',h1,h2⟩:=hT.addR (fun _=>by have:=HTo.out;omega) HG.out.1 HG.out.2.1 hgm hy hyx ha
     refine⟨_,by simp,?_,h1⟩
     rw[wB,wB] at h2
     rw[wB _ e,HLs.out,JB]
     rw[wB]
     have h2:bC E0+(1+2 * JB e'.ls)≤bC E0+(1+2 * JB r):=h2
     have:=ZB k
     omega
    have HMo:Hid (∀w5 w6 v' (k2:Nat),SC w5 sb mb ex (MF w N ex (E0++[{e with la:=la',lc:=lc - 1,ls:=r}]++[⟨kg,kq,ka2,kc2,k.kids,1+k.lines.length,k⟩]))→MpF (W2.drewN k2) w5 mb→RowG encE nJ w6 w.heap.size v' (E0++[{e with la:=la',lc:=lc - 1,ls:=r}]++[⟨kg,kq,ka2,kc2,k.kids,1+k.lines.length,k⟩])→Below w.heap.size w5 w6→∃E',E'≠[]∧bC E'+1≤bC (E0++[e])∧WgI w N sb mb ex tot 0 v' E' w6):=fun w5 w6 v' k2 h1 h2 h3 h4=>by
     refine⟨_,by simp,?_,hT.more HS.out.2.2.1 HS.out.1 HS.out.2.1 HKh.out hc2 hl2 hk2 rfl hn2.hm hlt2 h1 ⟨h2.os,h2.tape,h2.output,h2.size,h2.block⟩ h3 h4⟩
     rw[wB,wB,wB,HLs.out,JB]
     have:=ZB k
     show bC E0+(1+2 * JB r)+(1+2 * JB k.kids)+1≤bC E0+(1+2 * (EB k+JB r))
     omega
    have HRw:Hid (∀w5 (k2:Nat),MpF (W2.drewN k2) w5 mb→RowG encE nJ w5 w.heap.size (.slice (some ⟨g,0,none⟩) (m0+1) cap) (E0++[{e with la:=la',lc:=lc - 1,ls:=r}])∧w.heap.size≤w5.heap.size):=fun w5 k2 h2=>⟨hT.row.on fun q hq _ _=>by
     obtain rfl:g=q:=Option.some.inj hq
     exact h2.block g hgl2 hgm,Nat.le_trans hT.fr.size h2.size⟩
    have HMl:Hid (bC (E0++[e])≤gk∧gk≤800000∧(E0++[{e with la:=la',lc:=lc - 1,ls:=r}]).length+1≤1000000):=⟨HM.out.1,HM.out.2.1,by
     have:=HM.out.2.2
     rw[List.length_append,List.length_singleton]
     omega⟩
    have HW2:=aA hW2
    clear hT hW2 d0 d1 d2 t3 t5 hlow hn2 hn2' hc2 hl2 hb2 hp2 hk2 hlt2 HI HM HLt HKh HKr
    go_upto_region 15 with fail
    rw[←HW2.out]
    go_wp2_with fail
    refine HTo2.out.mono ?_
    rintro e9 w9 ⟨x,is,k2,rfl,g1,g2,rfl⟩
    have hA:=HA2.out x is g1 g2
    clear g1 g2 HTo2 HA2
    cases is
    ·clear hA
     go_wp2_with fail
     refine(HBg.out k2).mono ?_
     rintro e9 w5 ⟨rfl,hs5,hf5⟩
     obtain⟨hr5,hb5⟩:=HRw.out w5 k2 hf5
     have HF5:=aA (aI hs5 hf5)
     have hml:=HMl.out.2.2
     clear hs5 hf5
     go_wp2_with (at_builtin;go_loud (refine CI UR (by decide) Tryz.underlying163 rfl (.tmp 90) (.tmp 94) rfl w.heap.size (.slice (some ⟨g,0,none⟩) (m0+1) cap) _ ⟨kg,kq,ka2,kc2,k.kids,1+k.lines.length,k⟩ _ rfl (by simp[Act.eval]) hr5 (by simp[Act.eval]) hb5 hml ?_))
     intro v' w6 hr6 hb6 _ _
     obtain⟨E',h91,h92,h93⟩:=HMo.out w5 w6 v' k2 HF5.out.1 HF5.out.2 (by rw[List.append_assoc];exact hr6) hb6
     go_wp2_with fail
     go_roundg (bC E')
     all_goals first|(have:=HMl.out;omega)|exact⟨E',h91,nR _,by have:=HMl.out;omega,h93⟩
    ·obtain⟨x0,x1,x2⟩:=hA rfl
     have HX:=aA x2
     clear hA x2
     go_wp2_with fail
     refine(HAd.out x k2 ⟨x0,x1⟩).mono ?_
     rintro e9 w4 ⟨rfl,ha⟩
     obtain⟨E',h91,h92,h93⟩:=HE.out x w4 k2 ⟨x0,x1⟩ HX.out ha
     go_wp2_with fail
     go_roundg (bC E')
     all_goals first|(have:=HMl.out;omega)|exact⟨E',h91,nR _,by have:=HMl.out;omega,h93⟩
theorem pR{w:World}{b o:Nat}{v:Nat→Value}(hn:NodeAt w b o v){la:Option Addr}{lc:Nat}{ls:List ByteArray}(h2:v 2=.slice la ls.length lc)(hl:ls.length≤1000000)(hr:∀i s,ls[i]?=some s→∃b o,la=some ⟨b,o,none⟩∧w.cell? ⟨b,o+i,none⟩=some (.string s))(ha:la=none→ls=[]∧lc=0):
 Calls Tryz.prog 63 #[.pointer (some ⟨b,o,none⟩)] w fun e w'=>e=.returned (.tuple #[])∧∃w1 u,Below w.heap.size w w1∧w1.ownsRow w.heap.size 9 1 u ls.length (ls.map Value.string)∧w'=w1.setCell ⟨b,o+2,none⟩ u:=by
 have c2:=hn.cell (c:=2) (by omega)
 rw[h2] at c2
 have HC:=aA (yL la lc ls w (by omega) hr ha)
 have HN:=aA hn
 clear hr ha hn h2
 generalize hnn:ls.length=n at *
 go_enter Tryz.func63,Tryz.ntmps63
 go_wp2_with fail
 refine HC.out.mono ?_
 rintro e w1 ⟨⟨u,rfl,hu⟩,hb⟩
 obtain⟨ua,uc,rfl⟩:=tA hu
 have d2:=(hb.cell (p:=⟨b,o+2,none⟩) (dA c2)).trans c2
 have df:w1.frozen? ⟨b,o+2,none⟩=false:=by
  rw[World.frozen?_of_block (a:=⟨b,o+2,none⟩) (hb.block b HN.out.lt)]
  exact HN.out.frozen _
 have HB:=aA (aI hb hu)
 clear hb hu
 go_wp2
 refine bodyPost_end (results_none rfl _ _ _) rfl ⟨rfl,w1,_,HB.out.1,HB.out.2,rfl⟩
def cC:List It→Nat
 | []=>0
 |t::r=>1+t.lines.length+cC r
theorem WI:∀(l:List It) (k:It),cC (l++[k])=cC l+(1+k.lines.length)
 | [],k=>by rw[List.nil_append,cC,cC,cC];omega
 |a::r,k=>by rw[List.cons_append,cC,cC,WI r k];omega
theorem XI{l:List It}{i:Nat}{k:It}(h:l[i]?=some k):cC (l.take (i+1))=cC (l.take i)+(1+k.lines.length):=by
 obtain⟨hi,e⟩:=List.getElem?_eq_some_iff.1 h
 rw[List.take_succ_eq_append_getElem hi,e,WI]
theorem wM:∀(l:List It) (i:Nat),cC (l.take i)≤cC l
 | [],i=>by simp
 |a::r,0=>by rw[List.take_zero,cC];omega
 |a::r,i+1=>by rw[List.take_succ_cons,cC,cC];have:=wM r i;omega
theorem YS{w:World}{ka:Option Addr}{kc:Nat}{ks:List It}{most:Nat}(hk:∀i k,ks[i]?=some k→∃b o la lc,ka=some ⟨b,o,none⟩∧w.cell? ⟨b,o+i * 4+2,none⟩=some (.slice la k.lines.length lc)∧k.lines.length≤1000000)(hn:ks.length≤100000)(hm:cC ks≤most)(hm2:most≤100000000):
 Calls Tryz.prog 106 #[.agg iC,.slice ka ks.length kc,.int .i64 most] w fun e w'=>e=.returned (.tuple #[.slice ka ks.length kc,.int .i64 ((most - cC ks:Nat):Int)])∧Below w.heap.size w w':=by
 obtain⟨W,hW⟩:∃W,W=w.alloc (.cells iC 75):=⟨_,rfl⟩
 have hb0:Below w.heap.size w W:=by rw[hW];exact bA _ _
 have hbx:W.heap[w.heap.size]?=some (.cells iC 75 (0,0)):=by rw[hW];exact heap_alloc_new _ _
 obtain⟨x0,x1,x2,x3,x4⟩:=pO hbx
 have HX:=aA hW
 have HB:=aA hb0
 have HK:=aA hk
 have HM:=aA (aI hm (wM ks))
 obtain⟨n,hnn⟩:∃n,n=ks.length:=⟨_,rfl⟩
 have HN:=aA hnn
 rw[←hnn] at hn ⊢
 clear hW hb0 hbx hk hnn hm
 go_enter Tryz.func106,Tryz.ntmps106
 go_upto_region 1 with fail
 rw[←HX.out]
 go_wp2_with fail
 go_loopw [2,12] (fun mo i wr=>∃j:Nat,j≤n∧i=.int .i64 j∧mo=.int .i64 ((most - cC (ks.take j):Nat):Int)∧∃k,wr=W.drewN k) (fun _ i _=>n - (RowKit.intOf i).toNat)
 case atStart=>exact⟨0,by omega,rfl,by rw[List.take_zero,cC,Nat.sub_zero],0,rfl⟩
 case round=>
  obtain⟨j,hj,rfl,rfl,k0,hwr⟩:=hrel
  have y2:wr.cell? ⟨w.heap.size,2,none⟩=some (.func (.func 65) #[] #[]):=by rw[hwr];exact x2
  have HWr:=aA hwr
  clear hwr x0 x1 x2 x3 x4
  by_cases hjn:j<n
  ·obtain⟨k,hk⟩:∃k,ks[j]?=some k:=⟨_,List.getElem?_eq_getElem (by have:=HN.out;omega)⟩
   obtain⟨b,o,la,lc,rfl,hc,hl⟩:=HK.out j k hk
   have hjz:(j:Int)<n:=by omega
   have hc':wr.cell? ⟨b,o+j * 4+2,none⟩=some (.slice la k.lines.length lc):=by rw[HWr.out];exact(HB.out.cell (p:=⟨b,o+j * 4+2,none⟩) (dA hc)).trans hc
   have HWt:=aA (aI hc' hl)
   have ht:=XI hk
   have hle:=HM.out.2 (j+1)
   have hmm:=HM.out.1
   have HT:=aA ht
   rw[ht] at hle
   obtain⟨a,haa⟩:∃a,a=most - cC (ks.take j):=⟨_,rfl⟩
   have hA:1+k.lines.length≤a:=by omega
   have hA2:a≤100000000:=by omega
   have hNx:Hid (most - cC (ks.take (j+1))=a - (1+k.lines.length)):=by show _=_;rw[ht,haa];omega
   rw[←haa]
   clear ht hle hmm haa hc hc' hk
   generalize k.lines.length=ln at *
   have hgt:¬(a:Int)<1+(ln:Int):=by omega
   have hwr:IntKind.i64.wrap ((a:Int) - (1+(ln:Int)))=(a:Int) - (1+(ln:Int)):=by rw[IntKind.wrap_i64];omega
   go_wp2_with fail
   go_region_held3 (fun V=>V.cell? ⟨w.heap.size,2,none⟩=some (.func (.func 65) #[] #[])) (first|exact y2|go_keep) ((go_simp;go_at_call 65;refine(kI (w:=wr.drew) HWt.out.1 HWt.out.2).mono ?_;rintro e w1 ⟨rfl,ew⟩;subst w1))
   all_goals go_wp2_with fail
   all_goals go_roundw
   case rel=>exact⟨j+1,by omega,by go_num,by rw[hNx.out];congr 1;omega,k0+1,by rw[HWr.out];rfl⟩
   case measure=>simp[RowKit.intOf];omega
  ·obtain rfl:j=n:=by omega
   go_wp2
   go_ret2
   refine⟨?_,?_⟩
   ·rw[HN.out,List.take_length];rfl
   ·rw[HWr.out];exact FA HB.out _
abbrev EJ:Nat:=51
def FJ(p:Nat×Nat):Value:=.pointer (some ⟨p.1,p.2,none⟩)
structure QRow(w:World)(B:Nat)(v:Value)(ps:List (Nat×Nat)):Prop where
 is:∃a cap,v=.slice a ps.length cap∧ps.length≤cap∧(cap=0∨∃g off cur,a=some ⟨g,off,none⟩∧B≤g∧w.heap[g]?=some (.cells cur EJ (0,0))∧off+cap≤cur.size∧∀i p,ps[i]?=some p→cur[off+i]?=some (FJ p))
structure QFr(B:Nat)(w w':World):Prop where
 os:w'.os=w.os
 tape:w'.tape=w.tape
 output:w'.output=w.output
 size:w.heap.size≤w'.heap.size
 block:∀k,k<w.heap.size→(B≤k→∀cur,w.heap[k]?≠some (Obj.cells cur EJ (0,0)))→w'.heap[k]?=w.heap[k]?
theorem QRow.on{w w':World}{B:Nat}{v:Value}{ps:List (Nat×Nat)}(h:QRow w B v ps)(hk:∀(k:Nat) (cur:Array Value),w.heap[k]?=some (Obj.cells cur EJ (0,0))→w'.heap[k]?=w.heap[k]?):QRow w' B v ps:=by
 obtain⟨a,cap,e,hc,h⟩:=h.is
 refine⟨a,cap,e,hc,h.imp (fun h=>h) fun ⟨g,off,cur,e1,hB,hg,h1,h2⟩=>⟨g,off,cur,e1,hB,(hk g cur hg).trans hg,h1,h2⟩⟩
theorem QRow.new(w:World)(p:Nat×Nat)(B:Nat)(hB:B≤w.heap.size):QRow (w.alloc (.cells #[FJ p] EJ)) B (.slice (some ⟨w.heap.size,0,none⟩) 1 1) [p]:=
 ⟨_,1,rfl,nR _,.inr ⟨w.heap.size,0,#[FJ p],rfl,hB,heap_alloc_new _ _,nR _,fun i q hi=>by
   match i,hi with
   |0,hi=>injection hi with hi;subst hi;rfl
   |i+1,hi=>cases hi⟩⟩
theorem QRow.head{w:World}{B:Nat}{v:Value}{p:Nat×Nat}{r:List (Nat×Nat)}(h:QRow w B v (p::r)):∃g off cap,v=.slice (some ⟨g,off,none⟩) (r.length+1) cap∧w.cell? ⟨g,off,none⟩=some (FJ p)∧r.length+1≤cap∧QRow w B (.slice (if cap=1 then some ⟨g,off,none⟩ else some ⟨g,off+1,none⟩) r.length (cap - 1)) r:=by
 obtain⟨a,cap,e,hc,h⟩:=h.is
 rw[List.length_cons] at hc e
 rcases h with h|⟨g,off,cur,e1,hB,hg,h1,h2⟩
 ·omega
 ·subst e1
  refine⟨g,off,cap,e,?_,hc,⟨_,cap - 1,rfl,by omega,?_⟩⟩
  ·unfold World.cell?
   rw[hg]
   exact h2 0 p rfl
  ·by_cases hc1:cap=1
   ·exact .inl (by omega)
   ·rw[if_neg hc1]
    refine .inr ⟨g,off+1,cur,rfl,hB,hg,by omega,fun i q hi=>?_⟩
    have:=h2 (i+1) q (by simpa using hi)
    rwa [show off+1+i=off+(i+1) by omega]
theorem VR:∃i z,Tryz.prog.info? EJ=some i∧i.zero=some z∧i.size=1∧i.bytes=8∧z.cells.size=1:=by
 have h:(Tryz.prog.info? EJ).map (fun i=>(i.zero.map (fun z=>z.cells.size),i.size,i.bytes))=some (some 1,1,8):=by kernel_rfl
 cases hi:Tryz.prog.info? EJ with
 |none=>rw[hi] at h;cases h
 |some i=>
  rw[hi] at h
  simp only[Option.map_some,Option.some.injEq,Prod.mk.injEq] at h
  cases hz:i.zero with
  |none=>rw[hz] at h;simp at h
  |some z=>
   rw[hz] at h
   simp only[Option.map_some,Option.some.injEq] at h
   exact⟨i,z,rfl,hz,h.2.1,h.2.2,h.1⟩
theorem QRow.push{W:World}{B:Nat}{v:Value}{ps:List (Nat×Nat)}{p:Nat×Nat}(h:QRow W B v ps)(hB:B≤W.heap.size)(hl:ps.length+1≤1000000)(ty:TypeId):
 ∃v' w',(Builtin.append_ #[166,166] ty #[v,.slice (some ⟨W.heap.size,0,none⟩) 1 1]).run Tryz.prog (W.alloc (.cells #[FJ p] EJ))=.ok v' w'∧QRow w' B v' (ps++[p])∧QFr B W w':=by
 obtain⟨a,cap,rfl,hc,hq⟩:=h.is
 obtain⟨i,z,hi,hz,h1,h8,hzs⟩:=VR
 have hu:Tryz.prog.underlying 166=some (.slice EJ):=Tryz.underlying166
 obtain⟨W1,hW1⟩:∃W1,W1=W.alloc (.cells #[FJ p] EJ):=⟨_,rfl⟩
 have hb1:∀k,k<W.heap.size→W1.heap[k]?=W.heap[k]?:=fun k hk=>by rw[hW1];exact Below.heap_alloc _ _ _ hk
 have hs1:W1.heap.size=W.heap.size+1:=by rw[hW1];simp
 have hsrc:Src Tryz.prog i.size 166 (.slice (some ⟨W.heap.size,0,none⟩) 1 1) 1 [FJ p] W1:=Src.ofSlice W1 hu _ 1 1 _ (by rw[h1];rfl) (fun j u hj=>by
  match j,hj with
  |0,hj=>
   obtain rfl:FJ p=u:=Option.some.inj hj
   rw[hW1]
   show (W.alloc _).cell? ⟨W.heap.size,0,none⟩=_
   rw[World.cell?_alloc_at _ _ _ _ rfl]
   rfl
  |j+1,hj=>cases hj) (fun u hu=>by obtain rfl:u=FJ p:=(by simpa using hu);rfl)
 rw[←hW1]
 by_cases hroom:ps.length+1≤cap
 ·rcases hq with hq|⟨g,off,cur,rfl,hBg,hg,h2,h3⟩
  ·omega
  ·have hgl:=(Array.getElem?_eq_some_iff.1 hg).1
   have hg1:=(hb1 g hgl).trans hg
   have hrun:=run_append_room_src (P:=Tryz.prog) W1 166 166 ty EJ i hu hi g off ps.length cap _ 1 _ hsrc hroom (fun j hj=>by
    have hj:j=0:=by simpa using hj
    subst hj
    unfold World.cell?
    rw[hg1,h1]
    show (cur[off+ps.length * 1+0]?).isSome=true
    rw[Array.getElem?_eq_getElem (by omega)]
    rfl) (fun j hj=>by unfold World.frozen?;rw[hg1];simp)
   refine⟨_,_,hrun,?_,?_⟩
   ·have hnew:(W1.setCells g (off+ps.length * i.size) [FJ p]).heap[g]?=some (.cells (cur.setIfInBounds (off+ps.length) (FJ p)) EJ (0,0)):=by
     rw[h1,Nat.mul_one]
     exact OA (FJ p) hg1
    refine⟨_,cap,by rw[List.length_append];rfl,by rw[List.length_append];exact hroom,.inr ⟨g,off,_,rfl,hBg,hnew,by simpa using h2,fun j q hj=>?_⟩⟩
    rw[Array.getElem?_setIfInBounds]
    by_cases hjn:j<ps.length
    ·rw[if_neg (by omega)]
     rw[List.getElem?_append_left hjn] at hj
     exact h3 j q hj
    ·rw[List.getElem?_append_right (by omega)] at hj
     have hj0:j - ps.length=0:=by
      rcases Nat.eq_zero_or_pos (j - ps.length) with h|h
      ·exact h
      ·rw[List.getElem?_eq_none (by simp only[List.length_singleton];omega)] at hj;cases hj
     rw[hj0] at hj
     have hj:p=q:=Option.some.inj hj
     rw[if_pos (by omega),if_pos (by omega),hj]
   ·refine⟨by rw[h1,Nat.mul_one,hW1];rfl,by rw[h1,Nat.mul_one,hW1];rfl,by rw[h1,Nat.mul_one,hW1];rfl,by rw[h1,Nat.mul_one];show W.heap.size≤(W1.setCell ⟨g,off+ps.length,none⟩ (FJ p)).heap.size;simp;omega,fun k hk hne=>?_⟩
    have hkg:k≠g:=fun e=>hne (e▸hBg) cur (e▸hg)
    rw[h1,Nat.mul_one]
    show (W1.setCell ⟨g,off+ps.length,none⟩ (FJ p)).heap[k]?=_
    rw[Below.heap_setCell _ _ _ _ hkg,hb1 k hk]
 ·have hcap:cap=ps.length:=by omega
  have hold:(Builtin.firstCells i.size ps.length (.slice a ps.length cap)).run Tryz.prog W1.drew=.ok (ps.map FJ).toArray W1.drew:=by
   rcases hq with hq|⟨g,off,cur,rfl,hBg,hg,h2,h3⟩
   ·have hp0:ps=[]:=List.eq_nil_of_length_eq_zero (by omega)
    subst hp0
    cases a with
    |none=>exact run_firstCells_none _ _ _ _ _
    |some ad=>exact run_firstCells_some _ i.size 0 ad 0 cap [] (by simp) (fun j u hj=>by cases hj)
   ·have hgl:=(Array.getElem?_eq_some_iff.1 hg).1
    refine run_firstCells_some _ i.size ps.length _ ps.length cap (ps.map FJ) (by rw[List.length_map,h1,Nat.mul_one]) (fun j u hj=>?_)
    rw[List.getElem?_map] at hj
    obtain⟨q,hq,rfl⟩:=Option.map_eq_some_iff.1 hj
    rw[dC]
    show W1.cell? ⟨g,off+j,none⟩=_
    unfold World.cell?
    rw[hb1 g hgl,hg]
    exact h3 j q hq
  have hrun:=run_append_grow_src (P:=Tryz.prog) W1 166 166 ty EJ i z hu hi hz a ps.length cap (ps.map FJ) hold _ 1 _ hsrc (by omega) (by omega) (growslice_fits (by omega) (by rw[h8];omega))
  have hge:=grownCap_ge W1 (ps.length+1) cap EJ
  refine⟨_,_,hrun,?_,?_⟩
  ·refine⟨_,_,by rw[List.length_append];rfl,by rw[List.length_append];exact hge,.inr ⟨W1.heap.size,0,_,rfl,by omega,heap_alloc_new W1.drew _,?_,fun j q hj=>?_⟩⟩
   ·rw[Nat.zero_add,Array.size_append,List.size_toArray,size_zeroCells,hzs,List.length_append,List.length_map]
    show _≤ps.length+1+_
    omega
   ·have hjl:=(List.getElem?_eq_some_iff.1 hj).1
    rw[List.length_append] at hjl
    rw[Nat.zero_add,Array.getElem?_append_left (by rw[List.size_toArray,List.length_append,List.length_map];exact hjl),List.getElem?_toArray]
    rw[show [FJ p]=[p].map FJ from rfl,←List.map_append,List.getElem?_map,hj]
    rfl
  ·refine⟨by rw[hW1];rfl,by rw[hW1];rfl,by rw[hW1];rfl,by simp;omega,fun k hk _=>?_⟩
   rw[Below.heap_alloc _ _ _ (by show k<W1.heap.size;omega)]
   exact hb1 k hk
theorem DI{W:World}{ops:Array Oper}{rest:List Oper}{o:Oper}{a:Act}{Q:Exit→Act→World→Prop}(hgd:o.guard=none)(s x:Operand)(ho:o.op=.call {callee:=.builtin .append,args:=#[s,x],argTypes:=#[166,166]})
 (B:Nat) (v:Value) (ps:List (Nat×Nat)) (p:Nat×Nat) (hs:a.eval s=v) (hq:QRow W B v ps) (hx:a.eval x=.slice (some ⟨W.heap.size,0,none⟩) 1 1) (hB:B≤W.heap.size) (hl:ps.length+1≤1000000)
 (h:∀v' w',QRow w' B v' (ps++[p])→QFr B W w'→wpList Tryz.prog ops Q rest (a.put o.dst v') w'):wpList Tryz.prog ops Q (o::rest) a (W.alloc (.cells #[.pointer (some ⟨p.1,p.2,none⟩)] EJ)):=by
 refine wpList_plain hgd fun K hK=>?_
 obtain⟨v',w',hr,h2,h3⟩:=hq.push (p:=p) hB hl o.type
 have hr:(Builtin.append_ #[166,166] o.type #[v,.slice (some ⟨W.heap.size,0,none⟩) 1 1]).run Tryz.prog (W.alloc (.cells #[.pointer (some ⟨p.1,p.2,none⟩)] EJ))=.ok v' w':=hr
 unfold Oper.wp execOp
 simp only[ho,resolve,invoke,builtin,Sem.run_bind,Sem.run_pure,Result.andThen_ok,List.map_toArray,List.map_cons,List.map_nil,hs,hx,hr]
 exact hK _ _ (h v' w' h2 h3)
abbrev rA:Nat:=25
abbrev uU:Nat:=9
theorem vD{w:World}{B B' e s:Nat}{v:Value}{n:Nat}{xs:List Value}(h:w.ownsRow B e s v n xs)(hB:B'≤B):w.ownsRow B' e s v n xs:=by
 refine⟨h.1,?_⟩
 rcases h.2 with h|⟨g,cap,cur,e1,hb,r⟩
 ·exact .inl h
 ·exact .inr ⟨g,cap,cur,e1,by omega,r⟩
noncomputable def opens (g:Nat) (ks:List It):Nat→List (Nat×Nat×It)
 |0=>[]
 |i+1=>opens g ks i++(match ks[i]? with|none=>[]|some k=>if k.kids.isEmpty then [] else [(g,i * 4,k)])
theorem KD{g:Nat}{ks:List It}{i:Nat}{k:It}(h:ks[i]?=some k)(hk:k.kids≠[]):opens g ks (i+1)=opens g ks i++[(g,i * 4,k)]:=by
 rw[opens,h]
 show _++(if k.kids.isEmpty then [] else [(g,i * 4,k)])=_
 rw[if_neg (by rw[List.isEmpty_iff];exact hk)]
theorem JD{g:Nat}{ks:List It}{i:Nat}{k:It}(h:ks[i]?=some k)(hk:k.kids=[]):opens g ks (i+1)=opens g ks i:=by
 rw[opens,h]
 show _++(if k.kids.isEmpty then [] else [(g,i * 4,k)])=_
 rw[if_pos (by rw[List.isEmpty_iff];exact hk),List.append_nil]
theorem uD{g:Nat}{ks:List It}:∀(i:Nat) (p:Nat×Nat×It),p∈opens g ks i↔∃j,j<i∧ks[j]?=some p.2.2∧p.2.2.kids≠[]∧p.1=g∧p.2.1=j * 4
 |0,p=>by rw[opens];exact⟨(fun h=>by cases h),(fun ⟨j,h,_⟩=>by omega)⟩
 |i+1,p=>by
  rw[opens,List.mem_append,uD i p]
  constructor
  ·rintro (⟨j,h1,h2⟩|h)
   ·exact⟨j,by omega,h2⟩
   ·cases hk:ks[i]? with
    |none=>rw[hk] at h;cases h
    |some k=>
     rw[hk] at h
     have h:p∈(if k.kids.isEmpty then [] else [(g,i * 4,k)]):=h
     split at h
     ·cases h
     ·rename_i h3
      obtain rfl:p=(g,i * 4,k):=by simpa using h
      exact⟨i,by omega,hk,fun e=>h3 (by rw[List.isEmpty_iff];exact e),rfl,rfl⟩
  ·rintro ⟨j,h1,h2,h3,h4,h5⟩
   by_cases hj:j<i
   ·exact .inl ⟨j,hj,h2,h3,h4,h5⟩
   ·obtain rfl:j=i:=by omega
    refine .inr ?_
    rw[h2]
    show p∈(if p.2.2.kids.isEmpty then [] else [(g,j * 4,p.2.2)])
    rw[if_neg (by rw[List.isEmpty_iff];exact h3)]
    obtain⟨p1,p2,p3⟩:=p
    have h4:p1=g:=h4
    have h5:p2=j * 4:=h5
    subst h4 h5
    simp
def pl(p:Nat×Nat×It):Nat×Nat:=(p.1,p.2.1)
structure KidD(w:World)(n g j:Nat)(k:It)(u3:Value)(T:Nat→Prop)(x:Nat→Value):Prop where
 at':NodeAt w g (j * 4) x
 h0:x 0=.string k.label
 h1:x 1=.string k.head
 ln:w.ownsRow n uU 1 (x 2) k.lines.length (k.lines.map Value.string)
 l2:∀q,(x 2).ownBlock=some q→T q
 op:k.kids≠[]→x 3=u3
 sh:k.kids=[]→RowI w n (x 3) 0∧∀q,(x 3).ownBlock=some q→T q
structure KidI(w1 wr:World)(g cap:Nat)(K:Nat→Nat→Value)(ks:List It)(i:Nat)(Lr:List (Nat×Nat×It))(v:Value)(B:Nat)(T:Nat→Nat→Prop):Prop where
 os:wr.os=w1.os
 tape:wr.tape=w1.tape
 output:wr.output=w1.output
 size:w1.heap.size≤wr.heap.size
 gl:g<w1.heap.size
 old:∀k,k<w1.heap.size→k≠g→(B≤k→∀cur,w1.heap[k]?≠some (Obj.cells cur EJ (0,0)))→wr.heap[k]?=w1.heap[k]?
 row:∃cur,wr.heap[g]?=some (Obj.cells cur rA (0,0))∧cur.size=cap * 4
 todo:∀j,i≤j→j<ks.length→NodeAt wr g (j * 4) (K j)
 done:∀j k,j<i→ks[j]?=some k→∃x,KidD wr w1.heap.size g j k (K j 3) (T j) x
 hT:∀j q,j<i→T j q→w1.heap.size≤q∧q<wr.heap.size
 hd:∀j j' q,j<i→j'<i→T j q→T j' q→j=j'
 queue:QRow wr B v ((Lr++opens g ks i).map pl)
structure KidF(B:Nat)(w w':World)(g i:Nat):Prop where
 os:w'.os=w.os
 tape:w'.tape=w.tape
 output:w'.output=w.output
 size:w.heap.size≤w'.heap.size
 block:∀k,k<w.heap.size→k≠g→(B≤k→∀cur,w.heap[k]?≠some (Obj.cells cur EJ (0,0)))→w'.heap[k]?=w.heap[k]?
 here:∀cur,w.heap[g]?=some (Obj.cells cur rA (0,0))→∃cur',w'.heap[g]?=some (Obj.cells cur' rA (0,0))∧cur'.size=cur.size∧∀q,(q<i * 4∨i * 4+4≤q)→cur'[q]?=cur[q]?
theorem KidF.node{Bq:Nat}{w w':World}{g i j:Nat}(hf:KidF Bq w w' g i){x:Nat→Value}(h:NodeAt w g (j * 4) x)(hj:j≠i):NodeAt w' g (j * 4) x:=by
 obtain⟨cur,e,hc⟩:=h
 obtain⟨cur',e1,_,e3⟩:=hf.here cur e
 exact⟨cur',e1,fun c hc'=>by rw[e3 _ (by omega)];exact hc c hc'⟩
theorem KidF.rowS{Bq:Nat}{w w':World}{g i B n:Nat}{v:Value}{xs:List Value}(hf:KidF Bq w w' g i)(hg:∃cur,w.heap[g]?=some (Obj.cells cur rA (0,0)))(h:w.ownsRow B uU 1 v n xs):w'.ownsRow B uU 1 v n xs:=by
 refine CA h fun q hq hl=>?_
 obtain⟨cur,e⟩:=aF h hq
 obtain⟨cur',e'⟩:=hg
 refine hf.block q hl (fun e2=>?_) (fun _ c e2=>?_)
 ·subst e2
  rw[e] at e'
  injection e' with e'
  injection e' with _ e' _
  exact cE e'.symm
 ·rw[e] at e2
  injection e2 with e2
  injection e2 with _ e2 _
  exact cI e2
theorem KidF.rowI{Bq:Nat}{w w':World}{g i B n:Nat}{v:Value}(hf:KidF Bq w w' g i)(h:RowI w B v n):RowI w' B v n:=by
 rcases h with h|⟨q,cap,cur,e,hb,hq,h1,h2,h3⟩
 ·exact .inl h
 ·by_cases hqg:q=g
  ·subst hqg
   obtain⟨cur',e1,e2,_⟩:=hf.here cur hq
   exact .inr ⟨q,cap,cur',e,hb,e1,h1,h2,by omega⟩
  ·exact .inr ⟨q,cap,cur,e,hb,(hf.block q (Array.getElem?_eq_some_iff.1 hq).1 hqg (fun _ c e2=>by
    rw[hq] at e2
    injection e2 with e2
    injection e2 with _ e2 _
    exact oB e2)).trans hq,h1,h2,h3⟩
theorem KidI.step{w1 wr wb:World}{g cap:Nat}{K:Nat→Nat→Value}{ks:List It}{i:Nat}{Lr:List (Nat×Nat×It)}{v v':Value}{B:Nat}{T:Nat→Nat→Prop}{k:It}{x:Nat→Value}(h:KidI w1 wr g cap K ks i Lr v B T)(hi:ks[i]?=some k)(hf:KidF B wr wb g i)
 (hD:KidD wb wr.heap.size g i k (K i 3) (fun q=>wr.heap.size≤q∧q<wb.heap.size) x) (hq:QRow wb B v' ((Lr++opens g ks (i+1)).map pl)):KidI w1 wb g cap K ks (i+1) Lr v' B (fun j=>if j<i then T j else fun q=>wr.heap.size≤q∧q<wb.heap.size):=by
 have hsz:=h.size
 obtain⟨cur,hr1,hr2⟩:=h.row
 obtain⟨cur',hr3,hr4,_⟩:=hf.here cur hr1
 refine⟨hf.os.trans h.os,hf.tape.trans h.tape,hf.output.trans h.output,Nat.le_trans h.size hf.size,h.gl,fun q hq1 hq2 hq3=>?_,⟨cur',hr3,by omega⟩,fun j hj1 hj2=>hf.node (h.todo j (by omega) hj2) (by omega),fun j k' hj hk'=>?_,fun j q hj hq=>?_,fun j j' q hj hj' hq hq'=>?_,hq⟩
 ·have h1:=h.old q hq1 hq2 hq3
  rw[hf.block q (by omega) hq2 (fun hB c=>by rw[h1];exact hq3 hB c),h1]
 ·by_cases hji:j<i
  ·obtain⟨y,hy⟩:=h.done j k' hji hk'
   simp only[hji,if_true]
   exact⟨y,hf.node hy.at' (by omega),hy.h0,hy.h1,hf.rowS ⟨cur,hr1⟩ hy.ln,hy.l2,hy.op,fun e=>⟨hf.rowI (hy.sh e).1,(hy.sh e).2⟩⟩
  ·obtain rfl:j=i:=by omega
   rw[hi] at hk'
   injection hk' with hk'
   subst hk'
   simp only[Nat.lt_irrefl,if_false]
   exact⟨x,hD.at',hD.h0,hD.h1,vD hD.ln hsz,hD.l2,hD.op,fun e=>⟨(hD.sh e).1.mono hsz,(hD.sh e).2⟩⟩
 ·by_cases hji:j<i
  ·simp only[hji,if_true] at hq
   have:=h.hT j q hji hq
   have:=hf.size
   omega
  ·simp only[hji,if_false] at hq
   omega
 ·by_cases hji:j<i<;>by_cases hji':j'<i<;>simp only[hji,hji',if_true,if_false] at hq hq'
  ·exact h.hd j j' q hji hji' hq hq'
  ·have:=h.hT j q hji hq;omega
  ·have:=h.hT j' q hji' hq';omega
  ·omega
theorem KidI.newK{w w1 wr:World}{g cap:Nat}{K:Nat→Nat→Value}{t:It}{Lr:List (Nat×Nat×It)}{v:Value}{B:Nat}{T:Nat→Nat→Prop}(h:KidI w1 wr g cap K t.kids t.kids.length Lr v B T)(hB:B≤w.heap.size)(hw:w.heap.size≤w1.heap.size)(hg:w.heap.size≤g)(hcap:t.kids.length≤cap)(hcm:cap≤maxLen)(hL:∀p,p∈Lr→p.1<w.heap.size):
 NewK w wr B (Lr++opens g t.kids t.kids.length) (.slice (some ⟨g,0,none⟩) t.kids.length cap) t T:=by
 obtain⟨cur,hr1,hr2⟩:=h.row
 have hgl:=h.gl
 refine⟨.inr ⟨g,cap,cur,rfl,hg,hr1,hcap,hcm,hr2⟩,fun g' j k hg' hj=>?_,fun j q hj hq=>?_,h.hd⟩
 ·obtain rfl:g=g':=Option.some.inj hg'
  have hjl:=(List.getElem?_eq_some_iff.1 hj).1
  obtain⟨x,hx⟩:=h.done j k hjl hj
  have hTb:∀q,T j q→B≤q∧q<wr.heap.size:=fun q hq=>by have:=h.hT j q hjl hq;omega
  have hTg:¬T j g:=fun e=>by have:=h.hT j g hjl e;omega
  by_cases hk:k.kids=[]
  ·obtain⟨s1,s2⟩:=hx.sh hk
   refine .fin g (j * 4) k (T j) x hx.at' hx.h0 hx.h1 (vD hx.ln (by omega)) hx.l2 hTb hTg (by omega) (fun t' ht'=>?_) (fun _ _=>False) (by rw[hk];exact s1.mono (by omega)) s2 (fun g'' i k' _ hi=>by rw[hk] at hi;cases hi) (fun i q hi _=>by rw[hk] at hi;cases hi) (fun i i' q hi _ _ _=>by rw[hk] at hi;cases hi)
   rcases List.mem_append.1 ht' with h1|h1
   ·have:=hL _ h1
    have:g<w.heap.size:=this
    omega
   ·obtain⟨j',h2,h3,h4,h5,h6⟩:=(uD _ _).1 h1
    have h6:j * 4=j' * 4:=h6
    obtain rfl:j=j':=by omega
    rw[hj] at h3
    injection h3 with h3
    exact h4 (h3▸hk)
  ·exact .opn g (j * 4) k (T j) x hx.at' hx.h0 hx.h1 (vD hx.ln (by omega)) hx.l2 hTb hTg (by omega) (List.mem_append.2 (.inr ((uD _ _).2 ⟨j,hjl,hj,hk,rfl,rfl⟩)))
 ·have:=h.hT j q hj hq
  refine⟨by omega,this.2,fun e=>?_⟩
  have e:g=q:=Option.some.inj e
  omega
inductive SrcT(w:World)(N:Nat)(ex:Prop):(Nat→Value)→It→Prop
 |mk (v:Nat→Value) (t:It) (la ka:Option Addr) (lc kc:Nat) (V:Nat→Nat→Value)
  (h0:v 0=.string t.label) (h1:v 1=.string t.head) (h2:v 2=.slice la t.lines.length lc) (h3:v 3=.slice ka t.kids.length kc)
  (hl:∀i s,t.lines[i]?=some s→∃b o,la=some ⟨b,o,none⟩∧b<N∧w.cell? ⟨b,o+i,none⟩=some (.string s))
  (hk:∀i,i<t.kids.length→∃b o,ka=some ⟨b,o,none⟩∧b<N∧UnF w ⟨b,o+i * 4,none⟩∧(ex→PlnF w ⟨b,o+i * 4,none⟩)∧∀c,c<4→w.cell? ⟨b,o+i * 4+c,none⟩=some (V i c))
  (hr:∀i k,t.kids[i]?=some k→SrcT w N ex (V i) k) (cl:la=none→lc=0) (ck:ka=none→kc=0) (bl:t.lines.length≤1000000) (bk:t.kids.length≤100000) (hlc:t.lines.length≤lc) (hkc:t.kids.length≤kc):SrcT w N ex v t
structure Fk(w:World)(N:Nat)(ex:Prop)(u:Value)(t:It)(ka:Option Addr)(kc:Nat)(K:Nat→Nat→Value):Prop where
 is:u=.slice ka t.kids.length kc
 ck:ka=none→kc=0
 bk:t.kids.length≤100000
 hkc:t.kids.length≤kc
 hk:∀i,i<t.kids.length→∃b o,ka=some ⟨b,o,none⟩∧b<N∧∀c,c<4→w.cell? ⟨b,o+i * 4+c,none⟩=some (K i c)
 hr:∀i k,t.kids[i]?=some k→SrcT w N ex (K i) k
section
variable {w:World} {N:Nat} {ex:Prop}
theorem SrcT.fk{v:Nat→Value}{t:It}(h:SrcT w N ex v t):∃ka kc K,Fk w N ex (v 3) t ka kc K:=by
 cases h with
 |mk v t la ka lc kc V h0 h1 h2 h3 hl hk hr cl ck bl bk hlc hkc=>exact⟨ka,kc,V,h3,ck,bk,hkc,fun i hi=>(by obtain⟨b,o,e1,e2,_,_,e3⟩:=hk i hi;exact⟨b,o,e1,e2,e3⟩),hr⟩
theorem SrcT.texts{v:Nat→Value}{t:It}(h:SrcT w N ex v t):v 0=.string t.label∧v 1=.string t.head∧∃la lc,v 2=.slice la t.lines.length lc∧(la=none→lc=0)∧t.lines.length≤1000000∧t.lines.length≤lc∧∀i s,t.lines[i]?=some s→∃b o,la=some ⟨b,o,none⟩∧b<N∧w.cell? ⟨b,o+i,none⟩=some (.string s):=by
 cases h with
 |mk v t la ka lc kc V h0 h1 h2 h3 hl hk hr cl ck bl bk hlc hkc=>exact⟨h0,h1,la,lc,h2,cl,bl,hlc,hl⟩
theorem SrcT.on{w':World}{v:Nat→Value}{t:It}(h:SrcT w N ex v t)(hb:∀k,k<N→w'.heap[k]?=w.heap[k]?):SrcT w' N ex v t:=by
 induction h with
 |mk v t la ka lc kc V h0 h1 h2 h3 hl hk hr cl ck bl bk hlc hkc ih=>
  refine .mk v t la ka lc kc V h0 h1 h2 h3 (fun i s hs=>?_) (fun i hi=>?_) ih cl ck bl bk hlc hkc
  ·obtain⟨b,o,e,hN,hc⟩:=hl i s hs
   exact⟨b,o,e,hN,(World.cell?_of_block (a:=⟨b,o+i,none⟩) (hb b hN)).trans hc⟩
  ·obtain⟨b,o,e,hN,hu,hp,hc⟩:=hk i hi
   exact⟨b,o,e,hN,hu.on (hb b hN),fun hx=>(hp hx).on (hb b hN),fun c hc'=>(World.cell?_of_block (a:=⟨b,o+i * 4+c,none⟩) (hb b hN)).trans (hc c hc')⟩
theorem SrcT.lies{v:Nat→Value}{t:It}(h:SrcT w N ex v t):Lies w (· <N) v t:=by
 induction h with
 |mk v t la ka lc kc V h0 h1 h2 h3 hl hk hr cl ck bl bk hlc hkc ih=>
  exact .mk v t la ka lc kc V h0 h1 h2 h3 hl (fun i hi=>by obtain⟨b,o,e,hN,_,_,hc⟩:=hk i hi;exact⟨b,o,e,hN,hc⟩) ih hlc hkc
theorem SrcT.tree{N':Nat}(hN:N≤N'){v:Nat→Value}{t:It}(h:SrcT w N ex v t){b o:Nat}(c2:w.cell? ⟨b,o+2,none⟩=some (v 2))(c3:w.cell? ⟨b,o+3,none⟩=some (v 3))(hu:UnF w ⟨b,o,none⟩)(hp:ex→PlnF w ⟨b,o,none⟩)(hb:b<N'):TreeF w N' ex b o t:=by
 induction h generalizing b o with
 |mk v t la ka lc kc V h0 h1 h2 h3 hl hk hr cl ck bl bk hlc hkc ih=>
  refine .mk b o t la ka lc kc (by rw[c2,h2]) (by rw[c3,h3]) bl bk hkc hu hp hb (fun hne=>?_) (fun i k g q hi hg=>?_)
  ·obtain⟨b',o',e,_⟩:=hk 0 (List.length_pos_iff.2 hne)
   exact⟨b',o',e⟩
  ·obtain⟨b',o',e,hN',hu',hp',hc⟩:=hk i (List.getElem?_eq_some_iff.1 hi).1
   rw[hg] at e
   injection e with e
   injection e with e1 e2 _
   subst e1 e2
   exact ih i k hi (hc 2 (by omega)) (hc 3 (by omega)) hu' hp' (by omega)
def fF:List (Nat×Nat×It)→Nat
 | []=>0
 |p::r=>JB p.2.2.kids+fF r
theorem iI:∀(a b:List (Nat×Nat×It)),fF (a++b)=fF a+fF b
 | [],b=>by rw[List.nil_append,fF];omega
 |p::r,b=>by rw[List.cons_append,fF,fF,iI r b];omega
theorem gF{g:Nat}{ks:List It}:∀i,i≤ks.length→fF (opens g ks i)+cC (ks.take i)=JB (ks.take i)
 |0,_=>by rw[opens,fF,List.take_zero,cC,JB]
 |i+1,h=>by
  obtain⟨k,hk⟩:∃k,ks[i]?=some k:=⟨_,List.getElem?_eq_getElem (by omega)⟩
  have ih:=gF (g:=g) (ks:=ks) i (by omega)
  have hw:JB (ks.take (i+1))=JB (ks.take i)+EB k:=by
   obtain⟨hi,e⟩:=List.getElem?_eq_some_iff.1 hk
   rw[List.take_succ_eq_append_getElem hi,e]
   have:∀l:List It,JB (l++[k])=JB l+EB k:=fun l=>by
    induction l with
    |nil=>show EB k+JB []=JB []+EB k;omega
    |cons a r ih=>rw[List.cons_append,JB,JB,ih];omega
   exact this _
  have hk2:=ZB k
  rw[XI hk,hw]
  by_cases hz:k.kids=[]
  ·rw[JD hk hz]
   rw[hz,JB] at hk2
   omega
  ·rw[KD hk hz,iI,fF,fF]
   show fF (opens g ks i)+(JB k.kids+0)+_=_
   omega
theorem VI{g:Nat}{ks:List It}:∀i,(opens g ks i).length≤i
 |0=>nR _
 |i+1=>by
  rw[opens,List.length_append]
  have:=VI (g:=g) (ks:=ks) i
  split
  ·simp;omega
  ·split
   ·simp;omega
   ·simp;omega
structure RenI(w:World)(N rb:Nat)(ex:Prop)(t:It)(m:Nat)(v:Value)(L:List (Nat×Nat×It))(wr:World):Prop where
 low:BelX w.heap.size rb w wr
 ren:∃S,Ren wr w.heap.size L rb 0 t S
 q:QRow wr w.heap.size v (L.map pl)
 nodes:∀p,p∈L→p.2.1 % 4=0∧(p.1=rb∨w.heap.size≤p.1)∧∃x ka kc K,NodeAt wr p.1 p.2.1 x∧Fk w N ex (x 3) p.2.2 ka kc K
 pw:L.Pairwise fun p q=>¬(p.1=q.1∧p.2.1=q.2.1)
 bud:fF L≤m
theorem RenI.next{rb m m':Nat}{t t0:It}{v v' u:Value}{b0 o0:Nat}{Lr Ln:List (Nat×Nat×It)}{wr wr':World}{T:Nat→Nat→Prop}(h:RenI w N rb ex t m v ((b0,o0,t0)::Lr) wr)(hf:One3 wr wr' b0 (o0+3) u)(hlow:BelX w.heap.size rb wr wr')(hk:NewK wr wr' w.heap.size (Lr++Ln) u t0 T)
 (hLn:∀p,p∈Ln→wr.heap.size≤p.1∧p.2.1 % 4=0∧∃x ka kc K,NodeAt wr' p.1 p.2.1 x∧Fk w N ex (x 3) p.2.2 ka kc K) (hpw:Ln.Pairwise fun p q=>¬(p.1=q.1∧p.2.1=q.2.1)) (hq:QRow wr' w.heap.size v' ((Lr++Ln).map pl)) (hb:fF (Lr++Ln)≤m'):RenI w N rb ex t m' v' (Lr++Ln) wr':=by
 obtain⟨S,hS⟩:=h.ren
 obtain⟨h04,_,x0,ka0,kc0,K0,hn0,_⟩:=h.nodes (b0,o0,t0) (by simp)
 obtain⟨hp1,hp2⟩:=List.pairwise_cons.1 h.pw
 have hlt:∀p,p∈Lr→p.1<wr.heap.size:=fun p hp=>by
  obtain⟨_,_,x,_,_,_,hx,_⟩:=h.nodes p (List.mem_cons_of_mem _ hp)
  exact hx.lt
 have hn0':NodeAt wr b0 o0 x0:=hn0
 have h04:o0 % 4=0:=h04
 have hN:=h.low.size
 refine⟨h.low.trans hlow,⟨_,hS.step hN h04 ⟨_,hn0'.choose_spec.1⟩ hf hk (by simp) (fun p hp=>?_) (fun t' ht'=>?_) (fun p hp=>?_)⟩,hq,fun p hp=>?_,?_,hb⟩
 ·rcases List.mem_cons.1 hp with rfl|hp
  ·exact⟨fun _=>rfl,fun hn=>absurd ⟨rfl,rfl⟩ hn⟩
  ·have:=hp1 p hp
   exact⟨fun e=>absurd ⟨e.1.symm,e.2.symm⟩ this,fun _=>List.mem_append.2 (.inl hp)⟩
 ·rcases List.mem_append.1 ht' with h1|h1
  ·exact hp1 _ h1 ⟨rfl,rfl⟩
  ·have h1:wr.heap.size≤b0:=(hLn _ h1).1
   have:=hn0'.lt
   omega
 ·rcases List.mem_append.1 hp with h1|h1
  ·exact .inl (List.mem_cons_of_mem _ h1)
  ·exact .inr (hLn _ h1).1
 ·rcases List.mem_append.1 hp with h1|h1
  ·obtain⟨h2,h3,x,ka,kc,K,hx,hfk⟩:=h.nodes p (List.mem_cons_of_mem _ h1)
   exact⟨h2,h3,x,ka,kc,K,hf.node h04 hx h2 (fun e=>hp1 p h1 ⟨e.1.symm,e.2.symm⟩),hfk⟩
  ·have h2:=hLn p h1
   exact⟨h2.2.1,.inr (by omega),h2.2.2⟩
 ·refine List.pairwise_append.2 ⟨hp2,hpw,fun p hp q hq e=>?_⟩
  have:=hlt p hp
  have:=(hLn q hq).1
  have:=e.1
  omega
end
theorem NodeAt.set{w:World}{b o c:Nat}{v:Nat→Value}(h:NodeAt w b o v)(hc:c<4)(u:Value):NodeAt (w.setCell ⟨b,o+c,none⟩ u) b o (MC v c u):=by
 obtain⟨cur,e,hcs⟩:=h
 refine⟨_,OA u e,fun d hd=>?_⟩
 rw[Array.getElem?_setIfInBounds]
 by_cases hdc:d=c
 ·subst hdc
  rw[if_pos rfl,if_pos ((Array.getElem?_eq_some_iff.1 (hcs d hd)).1),EA]
 ·rw[if_neg (by omega),qA v u hdc]
  exact hcs d hd
theorem NodeAt.on{w w':World}{b o:Nat}{v:Nat→Value}(h:NodeAt w b o v)(hb:w'.heap[b]?=w.heap[b]?):NodeAt w' b o v:=by
 obtain⟨cur,e,hcs⟩:=h
 exact⟨cur,hb.trans e,hcs⟩
theorem KidF.trans{B:Nat}{a b c:World}{g i:Nat}(h:KidF B a b g i)(k:KidF B b c g i):KidF B a c g i:=by
 refine⟨k.os.trans h.os,k.tape.trans h.tape,k.output.trans h.output,Nat.le_trans h.size k.size,fun q hq hg hp=>?_,fun cur e=>?_⟩
 ·have h1:=h.block q hq hg hp
  exact(k.block q (Nat.lt_of_lt_of_le hq h.size) hg (fun hB c=>by rw[h1];exact hp hB c)).trans h1
 ·obtain⟨c1,e1,e2,e3⟩:=h.here cur e
  obtain⟨c2,g1,g2,g3⟩:=k.here c1 e1
  exact⟨c2,g1,g2.trans e2,fun q hq=>(g3 q hq).trans (e3 q hq)⟩
theorem KidF.new{B:Nat}{w w':World}{g i:Nat}(hb:Below w.heap.size w w')(hg:g<w.heap.size):KidF B w w' g i:=
 ⟨hb.os,hb.tape,hb.output,hb.size,fun q hq _ _=>hb.block q hq,fun cur e=>⟨cur,(hb.block g hg).trans e,rfl,fun _ _=>rfl⟩⟩
theorem KidF.cell{B:Nat}(w:World)(g i:Nat){c:Nat}(hc:c<4)(u:Value):KidF B w (w.setCell ⟨g,i * 4+c,none⟩ u) g i:=
 ⟨rfl,rfl,rfl,by simp,fun q _ hg _=>Below.heap_setCell _ _ _ _ hg,fun cur e=>⟨_,OA u e,by simp,fun q hq=>by rw[Array.getElem?_setIfInBounds,if_neg (by omega)]⟩⟩
theorem KidF.q{B:Nat}{w w':World}{g i:Nat}(h:QFr B w w'):KidF B w w' g i:=by
 refine⟨h.os,h.tape,h.output,h.size,fun q hq _ hp=>h.block q hq hp,fun cur e=>⟨cur,?_,rfl,fun _ _=>rfl⟩⟩
 rw[h.block g (Array.getElem?_eq_some_iff.1 e).1 (fun _ c e2=>by
  rw[e] at e2
  injection e2 with e2
  injection e2 with _ e2 _
  exact oB e2),e]
section
variable {N g j n:Nat} {wx w1:World} {K:Nat→Value} {k:It} {u2:Value} (hn:NodeAt wx g (j * 4) K) (h0:K 0=.string k.label) (h1:K 1=.string k.head) (hb:Below wx.heap.size wx w1) (hu:w1.ownsRow wx.heap.size uU 1 u2 k.lines.length (k.lines.map Value.string))
include hn hb
theorem LH:NodeAt w1 g (j * 4) K:=hn.on (hb.block g hn.lt)
theorem zO:KidF N wx (w1.setCell ⟨g,j * 4+2,none⟩ u2) g j∧NodeAt (w1.setCell ⟨g,j * 4+2,none⟩ u2) g (j * 4) (MC K 2 u2):=⟨(KidF.new hb hn.lt).trans (KidF.cell _ _ _ (by omega) _),(LH hn hb).set (by omega) u2⟩
include h0 h1 hu
theorem yO{w6:World}(hk:k.kids≠[])(hq:QFr N (w1.setCell ⟨g,j * 4+2,none⟩ u2) w6):KidF N wx w6 g j∧KidD w6 wx.heap.size g j k (K 3) (fun q=>wx.heap.size≤q∧q<w6.heap.size) (MC K 2 u2):=by
 obtain⟨hf,hy⟩:=zO (N:=N) (u2:=u2) hn hb
 have hy1:=LH hn hb
 obtain⟨c1,e1,_⟩:=hy1
 have hy':=hy
 obtain⟨cy,ey,_⟩:=hy
 have hfq:KidF N (w1.setCell ⟨g,j * 4+2,none⟩ u2) w6 g j:=.q hq
 have hsz:w1.heap.size≤w6.heap.size:=by have:=hq.size;simpa using this
 refine⟨hf.trans hfq,⟨?_,(qA K u2 (by omega)).trans h0,(qA K u2 (by omega)).trans h1,?_,fun q hq'=>?_,fun _=>qA K u2 (by omega),fun e=>absurd e hk⟩⟩
 ·refine hy'.on (hq.block g (by simpa using (LH hn hb).lt) (fun _ c e2=>?_))
  rw[ey] at e2
  injection e2 with e2
  injection e2 with _ e2 _
  exact oB e2
 ·rw[EA]
  exact hfq.rowS ⟨cy,ey⟩ ((KidF.cell (B:=N) w1 g j (c:=2) (by omega) u2).rowS ⟨c1,e1⟩ hu)
 ·rw[EA] at hq'
  have:=hu.lt q hq'
  omega
theorem jN{w7:World}{u3:Value}(hk:k.kids=[])(hb7:Below (w1.setCell ⟨g,j * 4+2,none⟩ u2).heap.size (w1.setCell ⟨g,j * 4+2,none⟩ u2) w7)(hu3:w7.ownsRow (w1.setCell ⟨g,j * 4+2,none⟩ u2).heap.size rA 4 u3 0 []):KidF N wx (w7.setCell ⟨g,j * 4+3,none⟩ u3) g j∧KidD (w7.setCell ⟨g,j * 4+3,none⟩ u3) wx.heap.size g j k (K 3) (fun q=>wx.heap.size≤q∧q<(w7.setCell ⟨g,j * 4+3,none⟩ u3).heap.size) (MC (MC K 2 u2) 3 u3):=by
 obtain⟨hf,hy⟩:=zO (N:=N) (u2:=u2) hn hb
 obtain⟨c1,e1,_⟩:=LH hn hb
 have hy7:=hy.on (hb7.block g hy.lt)
 obtain⟨cy,ey,_⟩:=hy
 have hf7:KidF N (w1.setCell ⟨g,j * 4+2,none⟩ u2) (w7.setCell ⟨g,j * 4+3,none⟩ u3) g j:=(KidF.new hb7 (by simpa using (LH hn hb).lt)).trans (KidF.cell _ _ _ (by omega) _)
 have hs7:w1.heap.size≤w7.heap.size:=by have:=hb7.size;simpa using this
 have hsx:wx.heap.size≤w1.heap.size:=hb.size
 have hs8:(w7.setCell ⟨g,j * 4+3,none⟩ u3).heap.size=w7.heap.size:=by simp
 have hsy:(w1.setCell ⟨g,j * 4+2,none⟩ u2).heap.size=w1.heap.size:=by simp
 refine⟨hf.trans hf7,⟨hy7.set (by omega) u3,?_,?_,?_,fun q hq=>?_,fun e=>absurd hk e,fun _=>⟨?_,fun q hq=>?_⟩⟩⟩
 ·rw[qA _ u3 (by omega),qA K u2 (by omega)];exact h0
 ·rw[qA _ u3 (by omega),qA K u2 (by omega)];exact h1
 ·rw[qA _ u3 (by omega),EA]
  exact hf7.rowS ⟨cy,ey⟩ ((KidF.cell (B:=N) w1 g j (c:=2) (by omega) u2).rowS ⟨c1,e1⟩ hu)
 ·rw[qA _ u3 (by omega),EA] at hq
  have:=hu.lt q hq
  omega
 ·rw[EA]
  obtain⟨c7,e7,_⟩:=hy7
  exact((KidF.cell (B:=N) w7 g j (c:=3) (by omega) u3).rowI (.of hu3)).mono (by omega)
 ·rw[EA] at hq
  have:=hu3.lt q hq
  omega
end
end Go.Proofs.YtpbolcjcmkmalaaGreatDoor

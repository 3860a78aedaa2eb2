import Derived.Test.YtpbolcjcmkmalaaGreatDoorAq00
import Derived.Test.YtpbolcjcmkmalaaGreatDoorAq01
set_option maxHeartbeats 20000000
set_option maxRecDepth 20000
namespace Go.Proofs.YtpbolcjcmkmalaaGreatDoor
open Go.RowKit Go.Extern.Stop Go.Stop Go.Extern
theorem AJ{t:ByteArray}(h:t.size=0):t.toList.isEmpty=true:=by
 rw[Lib.toList_data]
 have h2:=oA t
 unfold bl at h2
 rw[List.isEmpty_iff]
 exact List.eq_nil_of_length_eq_zero (by omega)
theorem yG{t:ByteArray}(h:t.size≠0):t.toList.isEmpty=false:=by
 rw[Lib.toList_data,Bool.eq_false_iff]
 intro e
 rw[List.isEmpty_iff] at e
 have h2:=oA t
 unfold bl at h2
 rw[e] at h2
 exact h h2.symm
theorem LS.drew{w W:World}{b:Nat}{l:Bool}{t c:ByteArray}(h:LS w W b l t c):LS w W.drew b l t c:=
 ⟨by simpa using h.r0,by simpa using h.r1,by simpa using h.r2,by simpa using h.g0,by simpa using h.g1,by simpa using h.g2,by simpa using h.c0,by simpa using h.c1,by simpa using h.c2,by simpa using h.f0,h.bel.drew,h.lt,h.lb⟩
def RL(s:ByteArray)(w w':World)(e:Ending):Prop:=Below w.heap.size w w'∧((∃k l,Lab s k l∧e=.returned (.tuple #[.agg #[.bool l,.string (s.extract 0 k),.string (s.extract k s.size)],.bool true]))∨((¬∃k l,Lab s k l)∧∃v0 v1 v2,e=.returned (.tuple #[.agg #[.bool v0,.string v1,.string v2],.bool false])))
theorem RL.no{s:ByteArray}{w w':World}{v0:Bool}{v1 v2:ByteArray}(hb:Below w.heap.size w w')(hn:¬∃k l,Lab s k l):RL s w w' (.returned (.tuple #[.agg #[.bool v0,.string v1,.string v2],.bool false])):=⟨hb,.inr ⟨hn,v0,v1,v2,rfl⟩⟩
theorem RL.yes{s:ByteArray}{w w':World}{k:Nat}{l:Bool}{t c:ByteArray}(hb:Below w.heap.size w w')(h:Lab s k l)(ht:t=s.extract 0 k)(hc:c=s.extract k s.size):RL s w w' (.returned (.tuple #[.agg #[.bool l,.string t,.string c],.bool true])):=⟨hb,.inl ⟨k,l,h,by rw[ht,hc]⟩⟩
set_option maxRecDepth 10000 in
theorem BI(s:ByteArray)(hs:s.size≤1000000)(w:World)(hT:Lib.Utf8Tabs 13 14 w):
 Calls Tryz.prog 116 #[.string s] w fun e w'=>RL s w w' e:=by
 obtain⟨k,hk,hr,hcap,huq⟩:=EP s
 have HT:=kB hT
 have HA:=kB (fun W hT=>cQ s hs W hT)
 rw[hr] at HA
 have HCap:=kB hcap
 have HUq:=kB huq
 obtain⟨t,ht⟩:∃t,t=s.extract 0 k:=⟨_,rfl⟩
 have hz:t.size=k:=by rw[ht];simp[ByteArray.size_extract];omega
 have HD:=kB (fun W hT=>aM t (by omega) W hT)
 have HM:=kB (fun W hT=>JN t (by omega) W hT)
 have HDi:Hid (AllP IE t 0 t.size↔AllP IE s 0 k):=by show _↔_;rw[ht];exact RJ hk
 have HMi:Hid (AllP dF t 0 t.size↔AllP dF s 0 k):=by show _↔_;rw[ht];exact RJ hk
 rw[←ht] at HA
 have HTe:=kB ht
 have hzi:(t.size:Int)≤s.size:=by omega
 obtain⟨c,hc⟩:∃c,c=s.extract t.size s.size:=⟨_,rfl⟩
 have hcz:c.size=s.size - k:=by rw[hc,hz];simp[ByteArray.size_extract]
 have HCe:=kB hc
 clear hT hr hcap huq ht
 go_enter Tryz.func116,Tryz.ntmps116
 go_wp2_with fail
 refine(HA.out _ (xC HT.out (bQ _ _))).mono ?_
 rintro e W ⟨rfl,hb⟩
 have HS:=kB (LS.start hb t c)
 clear hb
 by_cases k0:k=0
 ·have e1:=AJ (hz.trans k0)
  have HN:Hid (¬∃k l,Lab s k l):=by
   rintro ⟨k',l,h⟩
   have:=HUq.out k' l h
   have:=h.k1
   omega
  rw[hc] at HS
  have r0:=HS.out.r0
  have r1:=HS.out.r1
  have r2:=HS.out.r2
  have g0:=HS.out.g0
  have g1:=HS.out.g1
  have g2:=HS.out.g2
  clear hz k0 hcz hc
  go_wp2
  exact bodyPost_ret (v:=.tuple #[.agg #[.bool false,.string ⟨#[]⟩,.string ⟨#[]⟩],.bool false]) (by simp[results,Tryz.results116,go_sem,xI r0,yI r1,AI r2]) rfl (RL.no (HS.out.bel3 _ _ _) HN.out)
 ·have e1:=yG (t:=t) (by omega)
  have HK0:=kB k0
  by_cases k4:4<k
  ·have h4:(4:Int)<t.size:=by omega
   have HN:Hid (¬∃k l,Lab s k l):=by
    rintro ⟨k',l,h⟩
    have h1:=HUq.out k' l h
    have h2:=h.k4
    have h3:=h.kc
    omega
   rw[hc] at HS
   clear hz k0 hcz hc k4
   have r0:=HS.out.r0
   have r1:=HS.out.r1
   have r2:=HS.out.r2
   have g0:=HS.out.g0
   have g1:=HS.out.g1
   have g2:=HS.out.g2
   go_wp2
   exact bodyPost_ret (v:=.tuple #[.agg #[.bool false,.string ⟨#[]⟩,.string ⟨#[]⟩],.bool false]) (by simp[results,Tryz.results116,go_sem,xI r0,yI r1,AI r2]) rfl (RL.no (HS.out.bel3 _ _ _) HN.out)
  have h4:(t.size:Int)≤4:=by omega
  have HKz:=kB k4
  by_cases c2:2<c.size
  ·have h2:(2:Int)<((s.size - t.size:Nat):Int):=by omega
   have HN:Hid (¬∃k l,Lab s k l):=by
    rintro ⟨k',l,h⟩
    have h1:=HUq.out k' l h
    have h2:=h.k4
    have h3:=h.kc
    omega
   rw[hc] at HS
   have q2:=HS.out.c2
   clear hz k0 hcz hc k4 c2
   have r0:=HS.out.r0
   have r1:=HS.out.r1
   have r2:=HS.out.r2
   have g0:=HS.out.g0
   have g1:=HS.out.g1
   have g2:=HS.out.g2
   go_wp2
   exact bodyPost_ret (v:=.tuple #[.agg #[.bool false,.string ⟨#[]⟩,.string ⟨#[]⟩],.bool false]) (by simp[results,Tryz.results116,go_sem,xI r0,yI r1,AI r2]) rfl (RL.no (HS.out.bel3 _ _ _) HN.out)
  have h2:((s.size - t.size:Nat):Int)≤2:=by omega
  have HC2:Hid (s.size≤k+2):=by show _≤_;omega
  rw[hc] at HS
  have HZ:=kB hz
  have q2:=HS.out.c2
  by_cases hd:AllP IE s 0 k
  ·have e2:=Lib.toList_data (Lib.trimF IE t)
   have HD2:=kB HD.out
   rw[mL gO t (HDi.out.2 hd)] at HD2
   have t0:0<t.size:=by omega
   have HT0:Hid (∀h:0<s.size,t[0]=s[0]):=fun h=>by
    have e:=HTe.out
    subst e
    simp[ByteArray.getElem_extract]
   have t0':(0:Int)<t.size:=by omega
   clear hz k0 hcz hc k4 c2 e2
   go_wp2_with fail
   refine(HD2.out _ (xC HT.out HS.out.bel)).mono ?_
   rintro e W2 ⟨rfl,hb⟩
   have HS2:=kB (HS.out.on hb)
   clear hb q2
   have r0:=HS2.out.r0
   have r1:=HS2.out.r1
   have r2:=HS2.out.r2
   have g0:=HS2.out.g0
   have g1:=HS2.out.g1
   have g2:=HS2.out.g2
   have c0:=HS2.out.c0
   have c1:=HS2.out.c1
   have c2:=HS2.out.c2
   have e3:=AJ (t:=⟨#[]⟩) rfl
   go_wp2_with fail
   by_cases h48:t[0].toNat=48
   ·have e4:(((t[0].toNat:Nat):Int) !=48)=false:=by rw[h48];rfl
    have HN:Hid (¬∃k l,Lab s k l):=by
     rintro ⟨k',l,h⟩
     obtain rfl:=HUq.out k' l h
     have hs0:0<s.size:=by have:=HZ.out;omega
     have hts:s[0].toNat=48:=by rw[←h48,HT0.out hs0]
     have hb:=h.byte 0 hs0
     rcases h.stem with ⟨_,_,hz⟩|⟨hl,hsm⟩
     ·exact hz hs0 hts
     ·have:=smN_iff.1 (hsm 0 hs0 (Nat.zero_le _) h.k1)
      omega
    clear h48
    go_region
    all_goals go_wp2
    exact bodyPost_ret (v:=.tuple #[.agg #[.bool false,.string t,.string (s.extract t.size s.size)],.bool false]) (by simp[results,Tryz.results116,go_sem,xI r0,yI r1,AI r2]) rfl (RL.no (Below.drew (HS2.out.bel3 _ _ _)) HN.out)
   ·have e4:(((t[0].toNat:Nat):Int) !=48)=true:=by simp;omega
    have HLb:Hid (Lab s k false):=⟨by have:=HK0.out;omega,by have:=HKz.out;omega,hk,HC2.out,HCap.out (.inl hd),.inl ⟨rfl,hd,fun h=>by rw[←HT0.out h];exact h48⟩⟩
    clear h48
    go_region
    all_goals go_wp2
    exact bodyPost_ret (v:=.tuple #[.agg #[.bool false,.string t,.string (s.extract t.size s.size)],.bool true]) (by simp[results,Tryz.results116,go_sem,xI r0,yI r1,AI r2]) rfl (RL.yes (Below.drew (HS2.out.bel3 _ _ _)) HLb.out HTe.out (by rw[HZ.out]))
  ·have HD2:=kB HD.out
   have e2:=yG (nL gO t (fun h=>hd (HDi.out.1 h)))
   generalize Lib.trimF IE t=tt at *
   clear hz k0 hcz hc k4 c2
   go_wp2_with fail
   refine(HD2.out _ (xC HT.out HS.out.bel)).mono ?_
   rintro e W2 ⟨rfl,hb⟩
   have HS2:=kB (HS.out.on hb)
   have HS3:=kB (HS2.out.setL true)
   clear hb q2
   have q0:=HS2.out.c0
   have f0:=HS2.out.f0
   have r0:=HS3.out.r0
   have r1:=HS3.out.r1
   have r2:=HS3.out.r2
   have g0:=HS3.out.g0
   have g1:=HS3.out.g1
   have g2:=HS3.out.g2
   have c0:=HS3.out.c0
   have c1:=HS3.out.c1
   have c2:=HS3.out.c2
   go_wp2_with fail
   have hW:=HS3.out.bel
   have hWs:=HS3.out.bel3 (.bool true) (.string t) (.string (s.extract t.size s.size))
   have HM3:=kB (fun W' (hb:Below w.heap.size w W')=>HM.out W' (xC HT.out hb))
   by_cases hm:AllP dF s 0 k
   ·have e5:=AJ (t:=Lib.trimF dF t) (by rw[mL CP t (HMi.out.2 hm)];rfl)
    have HLb:Hid (Lab s k true):=⟨by have:=HK0.out;omega,by have:=HKz.out;omega,hk,HC2.out,HCap.out (.inr hm),.inr ⟨rfl,hm⟩⟩
    clear hm
    generalize Lib.trimF dF t=ts at *
    go_region_with (go_at_call 141;refine(HM3.out _ ?_).mono ?_;(· first|exact hW|exact Below.drew hW|exact hWs|exact Below.drew hWs);rintro e w5 ⟨rfl,hb5⟩;first|(have HS5:=(HS3.out.drew).on hb5;have hBe:=HS5.bel3 (.bool true) (.string t) (.string (s.extract t.size s.size));have r0':=HS5.r0;have r1':=HS5.r1;have r2':=HS5.r2;have g0':=HS5.g0;have g1':=HS5.g1;have g2':=HS5.g2;have c0':=HS5.c0;have c1':=HS5.c1;have c2':=HS5.c2)|(have kk:=HS3.out.res _ _ _ hb5;have hBs:=(Below.drew hWs).trans (hb5.mono (Below.drew hWs).size)))
    all_goals go_wp2
    all_goals first
     |exact bodyPost_ret (v:=.tuple #[.agg #[.bool true,.string t,.string (s.extract t.size s.size)],.bool true]) (by simp[results,Tryz.results116,go_sem,xI r0',yI r1',AI r2']) rfl (RL.yes (by first|exact hBe|exact Below.drew hBe) HLb.out HTe.out (by rw[HZ.out]))
     |exact bodyPost_ret (v:=.tuple #[.agg #[.bool true,.string t,.string (s.extract t.size s.size)],.bool true]) (by simp[results,Tryz.results116,go_sem,kk.1,kk.2.1,kk.2.2]) rfl (RL.yes (by first|exact hBs|exact Below.drew hBs) HLb.out HTe.out (by rw[HZ.out]))
   ·have e5:=yG (nL CP t (fun h=>hm (HMi.out.1 h)))
    have HN:Hid (¬∃k l,Lab s k l):=by
     rintro ⟨k',l,h⟩
     obtain rfl:=HUq.out k' l h
     rcases h.stem with ⟨_,hdd,_⟩|⟨_,hsm⟩
     ·exact hd hdd
     ·exact hm hsm
    clear hm
    generalize Lib.trimF dF t=ts at *
    go_region_with (go_at_call 141;refine(HM3.out _ ?_).mono ?_;(· first|exact hW|exact Below.drew hW|exact hWs|exact Below.drew hWs);rintro e w5 ⟨rfl,hb5⟩;first|(have HS5:=(HS3.out.drew).on hb5;have hBe:=HS5.bel3 (.bool true) (.string t) (.string (s.extract t.size s.size));have r0':=HS5.r0;have r1':=HS5.r1;have r2':=HS5.r2;have g0':=HS5.g0;have g1':=HS5.g1;have g2':=HS5.g2;have c0':=HS5.c0;have c1':=HS5.c1;have c2':=HS5.c2)|(have kk:=HS3.out.res _ _ _ hb5;have hBs:=(Below.drew hWs).trans (hb5.mono (Below.drew hWs).size)))
    all_goals go_wp2
    all_goals first
     |exact bodyPost_ret (v:=.tuple #[.agg #[.bool true,.string t,.string (s.extract t.size s.size)],.bool false]) (by simp[results,Tryz.results116,go_sem,xI r0',yI r1',AI r2']) rfl (RL.no (by first|exact hBe|exact Below.drew hBe) HN.out)
     |exact bodyPost_ret (v:=.tuple #[.agg #[.bool true,.string t,.string (s.extract t.size s.size)],.bool false]) (by simp[results,Tryz.results116,go_sem,kk.1,kk.2.1,kk.2.2]) rfl (RL.no (by first|exact hBs|exact Below.drew hBs) HN.out)
end Go.Proofs.YtpbolcjcmkmalaaGreatDoor

import Derived.Test.YtpbolcjcmkmalaaGreatDoorAq00
import Derived.Test.YtpbolcjcmkmalaaGreatDoorAq01
set_option maxHeartbeats 20000000
set_option maxRecDepth 20000
namespace Go.Proofs.YtpbolcjcmkmalaaGreatDoor
open Go.RowKit Go.Extern.Stop Go.Stop Go.Extern
structure LR(w W:World)(N:Int)(lo hi:ByteArray):Prop where
 r0:W.cell? ⟨w.heap.size,0,none⟩=some (.int .i64 0)
 r1:W.cell? ⟨w.heap.size,0+1,none⟩=some (.string ⟨#[]⟩)
 r2:W.cell? ⟨w.heap.size,0+2,none⟩=some (.string ⟨#[]⟩)
 g0:W.frozen? ⟨w.heap.size,0,none⟩=false
 g1:W.frozen? ⟨w.heap.size,0+1,none⟩=false
 g2:W.frozen? ⟨w.heap.size,0+2,none⟩=false
 c0:W.cell? ⟨w.heap.size+1,0,none⟩=some (.int .i64 N)
 c1:W.cell? ⟨w.heap.size+1,0+1,none⟩=some (.string lo)
 c2:W.cell? ⟨w.heap.size+1,0+2,none⟩=some (.string hi)
 f0:W.frozen? ⟨w.heap.size+1,0,none⟩=false
 f1:W.frozen? ⟨w.heap.size+1,0+1,none⟩=false
 f2:W.frozen? ⟨w.heap.size+1,0+2,none⟩=false
 bel:Below w.heap.size w W
theorem LR.start(w:World)(t u:TypeId):LR w ((w.alloc (.cells #[.int .i64 0,.string ⟨#[]⟩,.string ⟨#[]⟩] t)).alloc (.cells #[.int .i64 0,.string ⟨#[]⟩,.string ⟨#[]⟩] u)) 0 ⟨#[]⟩ ⟨#[]⟩:=by
 refine⟨?_,?_,?_,?_,?_,?_,?_,?_,?_,?_,?_,?_,(bA _ _).alloc (by simp) _⟩
 all_goals simp
theorem LR.drew{w W:World}{N:Int}{lo hi:ByteArray}(h:LR w W N lo hi):LR w W.drew N lo hi:=
 ⟨by simpa using h.r0,by simpa using h.r1,by simpa using h.r2,by simpa using h.g0,by simpa using h.g1,by simpa using h.g2,by simpa using h.c0,by simpa using h.c1,by simpa using h.c2,by simpa using h.f0,by simpa using h.f1,by simpa using h.f2,h.bel.drew⟩
theorem LR.setN{w W:World}{N:Int}{lo hi:ByteArray}(h:LR w W N lo hi)(x:Int):LR w (W.setCell ⟨w.heap.size+1,0,none⟩ (.int .i64 x)) x lo hi:=by
 have hne:w.heap.size+1≠w.heap.size:=by omega
 refine⟨?_,?_,?_,by simpa using h.g0,by simpa using h.g1,by simpa using h.g2,World.cell?_setCell_same _ _ _ h.c0,?_,?_,by simpa using h.f0,by simpa using h.f1,by simpa using h.f2,h.bel.setCell (Nat.le_succ _) _⟩
 ·rw[World.cell?_setCell_other _ _ _ _ (by intro e;injection e with e1;exact hne e1)];exact h.r0
 ·rw[World.cell?_setCell_other _ _ _ _ (by intro e;injection e with e1;exact hne e1)];exact h.r1
 ·rw[World.cell?_setCell_other _ _ _ _ (by intro e;injection e with e1;exact hne e1)];exact h.r2
 ·rw[World.cell?_setCell_other _ _ _ _ (by intro e;cases e)];exact h.c1
 ·rw[World.cell?_setCell_other _ _ _ _ (by intro e;cases e)];exact h.c2
theorem LR.setLo{w W:World}{N:Int}{lo hi:ByteArray}(h:LR w W N lo hi)(x:ByteArray):LR w (W.setCell ⟨w.heap.size+1,0+1,none⟩ (.string x)) N x hi:=by
 have hne:w.heap.size+1≠w.heap.size:=by omega
 refine⟨?_,?_,?_,by simpa using h.g0,by simpa using h.g1,by simpa using h.g2,?_,World.cell?_setCell_same _ _ _ h.c1,?_,by simpa using h.f0,by simpa using h.f1,by simpa using h.f2,h.bel.setCell (Nat.le_succ _) _⟩
 ·rw[World.cell?_setCell_other _ _ _ _ (by intro e;injection e with e1;exact hne e1)];exact h.r0
 ·rw[World.cell?_setCell_other _ _ _ _ (by intro e;injection e with e1;exact hne e1)];exact h.r1
 ·rw[World.cell?_setCell_other _ _ _ _ (by intro e;injection e with e1;exact hne e1)];exact h.r2
 ·rw[World.cell?_setCell_other _ _ _ _ (by intro e;cases e)];exact h.c0
 ·rw[World.cell?_setCell_other _ _ _ _ (by intro e;cases e)];exact h.c2
theorem LR.setHi{w W:World}{N:Int}{lo hi:ByteArray}(h:LR w W N lo hi)(x:ByteArray):LR w (W.setCell ⟨w.heap.size+1,0+2,none⟩ (.string x)) N lo x:=by
 have hne:w.heap.size+1≠w.heap.size:=by omega
 refine⟨?_,?_,?_,by simpa using h.g0,by simpa using h.g1,by simpa using h.g2,?_,?_,World.cell?_setCell_same _ _ _ h.c2,by simpa using h.f0,by simpa using h.f1,by simpa using h.f2,h.bel.setCell (Nat.le_succ _) _⟩
 ·rw[World.cell?_setCell_other _ _ _ _ (by intro e;injection e with e1;exact hne e1)];exact h.r0
 ·rw[World.cell?_setCell_other _ _ _ _ (by intro e;injection e with e1;exact hne e1)];exact h.r1
 ·rw[World.cell?_setCell_other _ _ _ _ (by intro e;injection e with e1;exact hne e1)];exact h.r2
 ·rw[World.cell?_setCell_other _ _ _ _ (by intro e;cases e)];exact h.c0
 ·rw[World.cell?_setCell_other _ _ _ _ (by intro e;cases e)];exact h.c1
theorem LR.bel3{w W:World}{N:Int}{lo hi:ByteArray}(h:LR w W N lo hi)(x y z:Value):Below w.heap.size w (((W.setCell ⟨w.heap.size,0,none⟩ x).setCell ⟨w.heap.size,1,none⟩ y).setCell ⟨w.heap.size,2,none⟩ z):=
 ((h.bel.setCell (nR _) _).setCell (nR _) _).setCell (nR _) _
def tU(s:ByteArray)(k:Nat)(l:Bool):Int:=bif l then 0 else (vd ((bl s).take k):Nat)
def qQ(s:ByteArray)(k:Nat)(l:Bool):ByteArray:=bif l then s.extract 0 k else ⟨#[]⟩
def RO(s:ByteArray)(w w':World)(e:Ending):Prop:=Below w.heap.size w w'∧((∃k l,Lab s k l∧e=.returned (.tuple #[.agg #[.int .i64 (tU s k l),.string (qQ s k l),.string (s.extract k s.size)],.bool true]))∨((¬∃k l,Lab s k l)∧∃n v1 v2,e=.returned (.tuple #[.agg #[.int .i64 n,.string v1,.string v2],.bool false])))
theorem RO.no{s:ByteArray}{w w':World}{n:Int}{v1 v2:ByteArray}(hb:Below w.heap.size w w')(hn:¬∃k l,Lab s k l):RO s w w' (.returned (.tuple #[.agg #[.int .i64 n,.string v1,.string v2],.bool false])):=⟨hb,.inr ⟨hn,n,v1,v2,rfl⟩⟩
theorem RO.yes{s:ByteArray}{w w':World}{k:Nat}{l:Bool}{n:Int}{v1 v2:ByteArray}(hb:Below w.heap.size w w')(h:Lab s k l)(h0:n=tU s k l)(h1:v1=qQ s k l)(h2:v2=s.extract k s.size):RO s w w' (.returned (.tuple #[.agg #[.int .i64 n,.string v1,.string v2],.bool true])):=⟨hb,.inl ⟨k,l,h,by rw[h0,h1,h2]⟩⟩
set_option maxRecDepth 10000 in
theorem NG(s:ByteArray)(hs:s.size≤1000000)(w:World):Calls Tryz.prog 37 #[.string s] w fun e w'=>RO s w w' e:=by
 obtain⟨a,ha⟩:∃a,a=OF IE s:=⟨_,rfl⟩
 have HK:Hid (∀i,i<a→∃hs:i<s.size,IE s[i].toNat=true):=by rw[ha];exact IJ IE s
 have HKe:Hid (∀hs:a<s.size,IE s[a].toNat=false):=by
  intro hsz
  have:∀(i:Nat) (hi:i<s.size),i=OF IE s→IE s[i].toNat=false:=fun i hi e=>by subst e;exact XH IE s hi
  exact this a hsz ha
 have hle:a≤s.size:=by rw[ha];exact kH IE s
 have HU1:Hid (∀k,Lab s k false→k=a):=fun k h=>by rw[ha];exact(lQ h).symm
 have HU2:Hid (∀k,Lab s k true→a=0∧k=OF dF s):=fun k h=>by rw[ha];exact⟨(DO h).1,(DO h).2.symm⟩
 have HV:=kB (ZQ s)
 have HVb:Hid (∀i,i≤a→i≤4→vd ((bl s).take i)<10000):=by
  intro i h1 h2
  have hd:∀c∈(bl s).take i,IE c.toNat=true:=fun c hc=>by
   obtain⟨j,hj,hji,rfl⟩:=NO hc
   exact(HK.out j (by omega)).2
  have:=wR _ hd
  have:10 ^ ((bl s).take i).length≤10 ^ 4:=Nat.pow_le_pow_right (by decide) (by rw[List.length_take];omega)
  omega
 clear ha
 go_enter Tryz.func37,Tryz.ntmps37
 go_wp2_with fail
 go_loopw [5] (fun t wr=>∃i:Nat,i≤a∧i≤4∧(1≤i→∀h:0<s.size,s[0].toNat≠48)∧t=.int .i64 i∧LR w wr ((vd ((bl s).take i):Nat):Int) ⟨#[]⟩ ⟨#[]⟩) (fun t _=>s.size - (RowKit.intOf t).toNat)
 case atStart=>exact⟨0,by omega,by omega,by omega,rfl,LR.start w _ _⟩
 case round=>
  obtain⟨i,hi,hi4,hz,rfl,hLR⟩:=hrel
  have HR:=kB hLR
  have HZ:=kB hz
  clear hLR hz
  have hvb:=HVb.out i hi hi4
  by_cases hlt:i<a
  ·obtain⟨hsz,hd⟩:=HK.out i hlt
   have hiz:(i:Int)<s.size:=by omega
   have hb:=dgN_iff.1 hd
   have HI:=kB (fun w=>fP s[i] w)
   rw[hd] at HI
   by_cases h4:i=4
   ·have e4:((i:Int)==4)=true:=by simp;omega
    have HN:Hid (¬∃k l,Lab s k l):=by
     rintro ⟨k,l,h⟩
     have b1:=h.byte i hsz
     have b2:=h.k4
     omega
    generalize vd ((bl s).take i)=v at *
    clear h4
    have r0:=HR.out.r0
    have r1:=HR.out.r1
    have r2:=HR.out.r2
    have g0:=HR.out.g0
    have g1:=HR.out.g1
    have g2:=HR.out.g2
    have c0:=HR.out.c0
    have c1:=HR.out.c1
    have c2:=HR.out.c2
    go_wp2_with (go_at_call 84;refine(HI.out _).mono ?_;rintro e w' ⟨rfl,rfl⟩)
    exact bodyPost_ret (v:=.tuple #[.agg #[.int .i64 (v:Int),.string ⟨#[]⟩,.string ⟨#[]⟩],.bool false]) (by simp[results,Tryz.results37,go_sem,xI r0,yI r1,AI r2]) rfl (RO.no (HR.out.bel3 _ _ _) HN.out)
   have e4:((i:Int)==4)=false:=by simp;omega
   have hsz0:0<s.size:=by omega
   have hsz0':(0:Int)<s.size:=by omega
   by_cases h0:i=0∧s[0].toNat=48
   ·have e0:((i:Int)==0)=true:=by simp;omega
    have e1:(((s[0].toNat:Nat):Int)==48)=true:=by rw[h0.2];rfl
    have HN:Hid (¬∃k l,Lab s k l):=by
     rintro ⟨k,l,h⟩
     have b1:=h.byte 0 hsz0
     have b2:=h.k1
     have b3:=h0.2
     rcases h.stem with ⟨_,_,hz⟩|⟨_,hsm⟩
     ·exact hz hsz0 h0.2
     ·have:=smN_iff.1 (hsm 0 hsz0 (Nat.zero_le _) b2);omega
    generalize vd ((bl s).take i)=v at *
    clear h0 h4
    have r0:=HR.out.r0
    have r1:=HR.out.r1
    have r2:=HR.out.r2
    have g0:=HR.out.g0
    have g1:=HR.out.g1
    have g2:=HR.out.g2
    have c0:=HR.out.c0
    have c1:=HR.out.c1
    have c2:=HR.out.c2
    go_wp2_with (go_at_call 84;refine(HI.out _).mono ?_;rintro e w' ⟨rfl,rfl⟩)
    exact bodyPost_ret (v:=.tuple #[.agg #[.int .i64 (v:Int),.string ⟨#[]⟩,.string ⟨#[]⟩],.bool false]) (by simp[results,Tryz.results37,go_sem,xI r0,yI r1,AI r2]) rfl (RO.no (HR.out.bel3 _ _ _) HN.out)
   by_cases i0:i=0
   ·have HV1:=kB (HV.out i hsz)
    have HZ1:Hid (∀h:0<s.size,s[0].toNat≠48):=fun h=>by
     by_cases hi0:i=0
     ·exact fun e=>h0 ⟨hi0,e⟩
     ·exact HZ.out (by omega) h
    have c0:=HR.out.c0
    have f0:=HR.out.f0
    have HS:=kB (HR.out.setN (((vd ((bl s).take i) * 10+(s[i].toNat - 48):Nat):Int)))
    rw[←HV1.out] at HS
    have ev:((vd ((bl s).take i):Nat):Int) * 10+((s[i].toNat:Int) - 48)=((vd ((bl s).take (i+1)):Nat):Int):=by rw[HV1.out];omega
    have HEv:=kB ev
    clear ev
    have e0:((i:Int)==0)=true:=by simp;omega
    have e1:(((s[0].toNat:Nat):Int)==48)=false:=by simp;have:=HZ1.out hsz0;omega
    clear h0 i0
    generalize vd ((bl s).take i)=v at *
    go_wp2_with fail
    refine(HI.out _).mono ?_
    rintro e w' ⟨rfl,ew⟩
    subst w'
    go_wp2_with fail
    go_region
    all_goals go_wp2
    all_goals go_round
    case rel=>exact⟨i+1,by omega,by omega,fun _=>HZ1.out,by go_num,by rw[HEv.out];exact HS.out.drew⟩
    case measure=>simp[RowKit.intOf];omega
   ·have HV1:=kB (HV.out i hsz)
    have HZ1:Hid (∀h:0<s.size,s[0].toNat≠48):=fun h=>by
     by_cases hi0:i=0
     ·exact fun e=>h0 ⟨hi0,e⟩
     ·exact HZ.out (by omega) h
    have c0:=HR.out.c0
    have f0:=HR.out.f0
    have HS:=kB (HR.out.setN (((vd ((bl s).take i) * 10+(s[i].toNat - 48):Nat):Int)))
    rw[←HV1.out] at HS
    have ev:((vd ((bl s).take i):Nat):Int) * 10+((s[i].toNat:Int) - 48)=((vd ((bl s).take (i+1)):Nat):Int):=by rw[HV1.out];omega
    have HEv:=kB ev
    clear ev
    have e0:((i:Int)==0)=false:=by simp;omega
    clear h0 i0
    generalize vd ((bl s).take i)=v at *
    go_wp2_with fail
    refine(HI.out _).mono ?_
    rintro e w' ⟨rfl,ew⟩
    subst w'
    go_wp2_with fail
    go_region
    all_goals go_wp2
    all_goals go_round
    case rel=>exact⟨i+1,by omega,by omega,fun _=>HZ1.out,by go_num,by rw[HEv.out];exact HS.out.drew⟩
    case measure=>simp[RowKit.intOf];omega
  ·obtain rfl:i=a:=by omega
   have HAd:Hid (AllP IE s 0 i):=fun j hj _ h=>(HK.out j h).2
   clear HK HV hlt hi
   by_cases a0:i=0
   ·subst a0
    rw[show ((vd ((bl s).take 0):Nat):Int)=0 by simp[vd]] at HR
    clear hvb
    rcases Nat.lt_or_ge 0 s.size with hsz|hsz
    ·have hiz:(0:Int)<s.size:=by omega
     have HI:=kB (fun w=>fP s[0] w)
     rw[HKe.out hsz] at HI
     obtain⟨b,hbs⟩:∃b,b=OF dF s:=⟨_,rfl⟩
     have HKs:Hid (∀i,i<b→∃hs:i<s.size,dF s[i].toNat=true):=by rw[hbs];exact IJ dF s
     have HKse:Hid (∀hs:b<s.size,dF s[b].toNat=false):=by
      intro hsz
      have:∀(i:Nat) (hi:i<s.size),i=OF dF s→dF s[i].toNat=false:=fun i hi e=>by subst e;exact XH dF s hi
      exact this b hsz hbs
     have hble:b≤s.size:=by rw[hbs];exact kH dF s
     have HBs:=kB hbs
     clear hbs
     go_wp2_with fail
     refine(HI.out _).mono ?_
     rintro e w9 ⟨rfl,ew⟩
     subst w9
     go_wp2_with fail
     go_loop [5] (fun t=>∃j:Nat,j≤b∧j≤4∧t=.int .i64 j) (fun t=>s.size - (RowKit.intOf t).toNat)
     case atStart=>exact⟨0,by omega,by omega,rfl⟩
     case round=>
      obtain⟨j,hj,hj4,rfl⟩:=hrel
      by_cases hjl:j<b
      ·obtain⟨hsz2,hd2⟩:=HKs.out j hjl
       have hjz:(j:Int)<s.size:=by omega
       have hb2:=smN_iff.1 hd2
       have HI2:=kB (fun w=>tR s[j] w)
       rw[hd2] at HI2
       by_cases h4:j=4
       ·have e4:((j:Int)==4)=true:=by simp;omega
        have HN:Hid (¬∃k l,Lab s k l):=by
         rintro ⟨k,l,h⟩
         have b1:=h.byte j hsz2
         have b2:=h.k4
         omega
        clear h4
        go_wp2_with fail
        refine(HI2.out _).mono ?_
        rintro e w9 ⟨rfl,ew⟩
        subst w9
        have r0:=HR.out.r0
        have r1:=HR.out.r1
        have r2:=HR.out.r2
        have g0:=HR.out.g0
        have g1:=HR.out.g1
        have g2:=HR.out.g2
        have c0:=HR.out.c0
        have c1:=HR.out.c1
        have c2:=HR.out.c2
        go_wp2
        exact bodyPost_ret (v:=.tuple #[.agg #[.int .i64 0,.string ⟨#[]⟩,.string ⟨#[]⟩],.bool false]) (by simp[results,Tryz.results37,go_sem,xI r0,yI r1,AI r2]) rfl (RO.no (HR.out.bel3 _ _ _) HN.out)
       ·have e4:((j:Int)==4)=false:=by simp;omega
        have h4':j+1≤4:=by omega
        clear h4
        go_wp2_with fail
        refine(HI2.out _).mono ?_
        rintro e w9 ⟨rfl,ew⟩
        subst w9
        go_wp2
        go_round
        case rel=>exact⟨j+1,by omega,by omega,by go_num⟩
        case measure=>simp[RowKit.intOf];omega
      ·obtain rfl:j=b:=by omega
       have HAs:Hid (AllP dF s 0 j):=fun i hi _ h=>(HKs.out i h).2
       have HUq:Hid (∀k l,Lab s k l→k=j):=fun k l h=>by
        cases l
        ·have:=HU1.out k h
         have:=h.k1
         omega
        ·exact(HU2.out k h).2.trans HBs.out.symm
       have HNo:Hid ((0:Int)=tU s j true):=rfl
       have HLo:Hid (s.extract 0 j=qQ s j true):=rfl
       have q1:=HR.out.c1
       have qf1:=HR.out.f1
       have q2:=HR.out.c2
       have qf2:=HR.out.f2
       clear HKs
       rcases Nat.lt_or_ge j s.size with hsz|hsz
       ·have hjz:(j:Int)<s.size:=by omega
        have HI2:=kB (fun w=>tR s[j] w)
        rw[HKse.out hsz] at HI2
        by_cases k0:j=0
        ·have e0':((j:Int)==0)=true:=by simp;omega
         have HN:Hid (¬∃k l,Lab s k l):=by
          rintro ⟨k,l,h⟩
          have hk:=HUq.out k l h
          have h1:=h.k1
          have h2:=h.kc
          omega
         clear k0
         go_wp2_with fail
         refine(HI2.out _).mono ?_
         rintro e w9 ⟨rfl,ew⟩
         subst w9
         have r0:=((HR.out.setLo (s.extract 0 j)).setHi (s.extract j s.size)).r0
         have r1:=((HR.out.setLo (s.extract 0 j)).setHi (s.extract j s.size)).r1
         have r2:=((HR.out.setLo (s.extract 0 j)).setHi (s.extract j s.size)).r2
         have g0:=((HR.out.setLo (s.extract 0 j)).setHi (s.extract j s.size)).g0
         have g1:=((HR.out.setLo (s.extract 0 j)).setHi (s.extract j s.size)).g1
         have g2:=((HR.out.setLo (s.extract 0 j)).setHi (s.extract j s.size)).g2
         have c0:=((HR.out.setLo (s.extract 0 j)).setHi (s.extract j s.size)).c0
         have c1:=((HR.out.setLo (s.extract 0 j)).setHi (s.extract j s.size)).c1
         have c2:=((HR.out.setLo (s.extract 0 j)).setHi (s.extract j s.size)).c2
         go_wp2
         exact bodyPost_ret (v:=.tuple #[.agg #[.int .i64 0,.string (s.extract 0 j),.string (s.extract j s.size)],.bool false]) (by simp[results,Tryz.results37,go_sem,xI r0,yI r1,AI r2]) rfl (RO.no (((HR.out.setLo (s.extract 0 j)).setHi (s.extract j s.size)).bel3 _ _ _) HN.out)
        have e0':((j:Int)==0)=false:=by simp;omega
        by_cases c2:2<s.size - j
        ·have h2:(2:Int)<((s.size - j:Nat):Int):=by omega
         have HN:Hid (¬∃k l,Lab s k l):=by
          rintro ⟨k,l,h⟩
          have hk:=HUq.out k l h
          have h1:=h.k1
          have h2:=h.kc
          omega
         go_wp2_with fail
         refine(HI2.out _).mono ?_
         rintro e w9 ⟨rfl,ew⟩
         subst w9
         have r0:=((HR.out.setLo (s.extract 0 j)).setHi (s.extract j s.size)).r0
         have r1:=((HR.out.setLo (s.extract 0 j)).setHi (s.extract j s.size)).r1
         have r2:=((HR.out.setLo (s.extract 0 j)).setHi (s.extract j s.size)).r2
         have g0:=((HR.out.setLo (s.extract 0 j)).setHi (s.extract j s.size)).g0
         have g1:=((HR.out.setLo (s.extract 0 j)).setHi (s.extract j s.size)).g1
         have g2:=((HR.out.setLo (s.extract 0 j)).setHi (s.extract j s.size)).g2
         have c0:=((HR.out.setLo (s.extract 0 j)).setHi (s.extract j s.size)).c0
         have c1:=((HR.out.setLo (s.extract 0 j)).setHi (s.extract j s.size)).c1
         have c2:=((HR.out.setLo (s.extract 0 j)).setHi (s.extract j s.size)).c2
         go_wp2
         exact bodyPost_ret (v:=.tuple #[.agg #[.int .i64 0,.string (s.extract 0 j),.string (s.extract j s.size)],.bool false]) (by simp[results,Tryz.results37,go_sem,xI r0,yI r1,AI r2]) rfl (RO.no (((HR.out.setLo (s.extract 0 j)).setHi (s.extract j s.size)).bel3 _ _ _) HN.out)
        have h2:((s.size - j:Nat):Int)≤2:=by omega
        go_wp2_with fail
        refine(HI2.out _).mono ?_
        rintro e w9 ⟨rfl,ew⟩
        subst w9
        have H3:=kB (((HR.out.setLo (s.extract 0 j)).setHi (s.extract j s.size)))
        have c2':=H3.out.c2
        go_wp2_with fail
        go_loop [6] (fun t=>∃m:Nat,m≤s.size - j∧t=.int .i64 m∧AllP GG s j (j+m)) (fun t=>s.size - (RowKit.intOf t).toNat)
        case atStart=>exact⟨0,by omega,rfl,fun i hi a b=>by omega⟩
        case round=>
         obtain⟨m,hm,rfl,hall⟩:=hrel
         have HAll:=kB hall
         clear hall
         by_cases hml:m<s.size - j
         ·have hmz:(m:Int)<((s.size - j:Nat):Int):=by omega
          have hKm:j+m<s.size:=by omega
          have hxz:m<(s.extract j s.size).size:=by simp[ByteArray.size_extract];omega
          have ex:(s.extract j s.size)[m]=s[j+m]:=by simp[ByteArray.getElem_extract]
          have HI3:=kB (fun w=>sR (s.extract j s.size)[m] w)
          have ecp:GG (s.extract j s.size)[m].toNat=GG s[j+m].toNat:=by rw[ex]
          cases hcp:GG s[j+m].toNat
          ·rw[ecp,hcp] at HI3
           have HN:Hid (¬∃k l,Lab s k l):=by
            rintro ⟨k,l,h⟩
            have hk:=HUq.out k l h
            have:=h.cap (j+m) hKm (by omega) (by omega)
            rw[hcp] at this
            cases this
           clear hcp ecp ex
           go_wp2_with fail
           refine(HI3.out _).mono ?_
           rintro e w8 ⟨rfl,ew⟩
           subst w8
           have r0:=H3.out.r0
           have r1:=H3.out.r1
           have r2:=H3.out.r2
           have g0:=H3.out.g0
           have g1:=H3.out.g1
           have g2:=H3.out.g2
           have c0:=H3.out.c0
           have c1:=H3.out.c1
           have c2:=H3.out.c2
           go_wp2
           exact bodyPost_ret (v:=.tuple #[.agg #[.int .i64 0,.string (s.extract 0 j),.string (s.extract j s.size)],.bool false]) (by simp[results,Tryz.results37,go_sem,xI r0,yI r1,AI r2]) rfl (RO.no (H3.out.bel3 _ _ _) HN.out)
          ·rw[ecp,hcp] at HI3
           have HA2:Hid (AllP GG s j (j+(m+1))):=AllP.snoc hKm hcp HAll.out
           clear hcp ecp ex
           go_wp2_with fail
           refine(HI3.out _).mono ?_
           rintro e w8 ⟨rfl,ew⟩
           subst w8
           go_wp2
           go_round
           case rel=>exact⟨m+1,by omega,by go_num,HA2.out⟩
           case measure=>simp[RowKit.intOf];omega
         ·obtain rfl:m=s.size - j:=by omega
          have HLb:Hid (Lab s j true):=by
           have hal:=HAll.out
           rw[show j+(s.size - j)=s.size by omega] at hal
           exact⟨by omega,by omega,by omega,by omega,hal,.inr ⟨rfl,HAs.out⟩⟩
          have r0:=H3.out.r0
          have r1:=H3.out.r1
          have r2:=H3.out.r2
          have g0:=H3.out.g0
          have g1:=H3.out.g1
          have g2:=H3.out.g2
          have c0:=H3.out.c0
          have c1:=H3.out.c1
          have c2:=H3.out.c2
          go_wp2
          exact bodyPost_ret (v:=.tuple #[.agg #[.int .i64 0,.string (s.extract 0 j),.string (s.extract j s.size)],.bool true]) (by simp[results,Tryz.results37,go_sem,xI r0,yI r1,AI r2]) rfl (RO.yes (H3.out.bel3 _ _ _) HLb.out HNo.out HLo.out rfl)
       ·have d2:decide ((j:Int)<s.size)=false:=by simp;omega
        by_cases k0:j=0
        ·have e0':((j:Int)==0)=true:=by simp;omega
         have HN:Hid (¬∃k l,Lab s k l):=by
          rintro ⟨k,l,h⟩
          have hk:=HUq.out k l h
          have h1:=h.k1
          have h2:=h.kc
          omega
         clear k0
         have r0:=((HR.out.setLo (s.extract 0 j)).setHi (s.extract j s.size)).r0
         have r1:=((HR.out.setLo (s.extract 0 j)).setHi (s.extract j s.size)).r1
         have r2:=((HR.out.setLo (s.extract 0 j)).setHi (s.extract j s.size)).r2
         have g0:=((HR.out.setLo (s.extract 0 j)).setHi (s.extract j s.size)).g0
         have g1:=((HR.out.setLo (s.extract 0 j)).setHi (s.extract j s.size)).g1
         have g2:=((HR.out.setLo (s.extract 0 j)).setHi (s.extract j s.size)).g2
         have c0:=((HR.out.setLo (s.extract 0 j)).setHi (s.extract j s.size)).c0
         have c1:=((HR.out.setLo (s.extract 0 j)).setHi (s.extract j s.size)).c1
         have c2:=((HR.out.setLo (s.extract 0 j)).setHi (s.extract j s.size)).c2
         go_wp2
         exact bodyPost_ret (v:=.tuple #[.agg #[.int .i64 0,.string (s.extract 0 j),.string (s.extract j s.size)],.bool false]) (by simp[results,Tryz.results37,go_sem,xI r0,yI r1,AI r2]) rfl (RO.no (((HR.out.setLo (s.extract 0 j)).setHi (s.extract j s.size)).bel3 _ _ _) HN.out)
        have e0':((j:Int)==0)=false:=by simp;omega
        have h2:((s.size - j:Nat):Int)≤2:=by omega
        have H3:=kB (((HR.out.setLo (s.extract 0 j)).setHi (s.extract j s.size)))
        have c2':=H3.out.c2
        go_wp2_with fail
        go_loop [6] (fun t=>∃m:Nat,m≤s.size - j∧t=.int .i64 m∧AllP GG s j (j+m)) (fun t=>s.size - (RowKit.intOf t).toNat)
        case atStart=>exact⟨0,by omega,rfl,fun i hi a b=>by omega⟩
        case round=>
         obtain⟨m,hm,rfl,hall⟩:=hrel
         have HAll:=kB hall
         clear hall
         by_cases hml:m<s.size - j
         ·exfalso;omega
         ·obtain rfl:m=s.size - j:=by omega
          have HLb:Hid (Lab s j true):=by
           have hal:=HAll.out
           rw[show j+(s.size - j)=s.size by omega] at hal
           exact⟨by omega,by omega,by omega,by omega,hal,.inr ⟨rfl,HAs.out⟩⟩
          have r0:=H3.out.r0
          have r1:=H3.out.r1
          have r2:=H3.out.r2
          have g0:=H3.out.g0
          have g1:=H3.out.g1
          have g2:=H3.out.g2
          have c0:=H3.out.c0
          have c1:=H3.out.c1
          have c2:=H3.out.c2
          go_wp2
          exact bodyPost_ret (v:=.tuple #[.agg #[.int .i64 0,.string (s.extract 0 j),.string (s.extract j s.size)],.bool true]) (by simp[results,Tryz.results37,go_sem,xI r0,yI r1,AI r2]) rfl (RO.yes (H3.out.bel3 _ _ _) HLb.out HNo.out HLo.out rfl)
    ·have hs0:s.size=0:=by omega
     have d0:decide ((0:Int)<s.size)=false:=decide_eq_false (by omega)
     have HN:Hid (¬∃k l,Lab s k l):=by
      rintro ⟨k,l,h⟩
      have:=h.k1
      have:=h.ks
      omega
     have q1:=HR.out.c1
     have qf1:=HR.out.f1
     have q2:=HR.out.c2
     have qf2:=HR.out.f2
     have HSz:=kB hs0
     clear hs0
     go_wp2_with fail
     go_loop [5] (fun t=>t=.int .i64 0) (fun _=>0)
     case atStart=>exact rfl
     case round=>
      subst hrel
      have r0:=((HR.out.setLo ByteArray.empty).setHi s).r0
      have r1:=((HR.out.setLo ByteArray.empty).setHi s).r1
      have r2:=((HR.out.setLo ByteArray.empty).setHi s).r2
      have g0:=((HR.out.setLo ByteArray.empty).setHi s).g0
      have g1:=((HR.out.setLo ByteArray.empty).setHi s).g1
      have g2:=((HR.out.setLo ByteArray.empty).setHi s).g2
      have c0:=((HR.out.setLo ByteArray.empty).setHi s).c0
      have c1:=((HR.out.setLo ByteArray.empty).setHi s).c1
      have c2:=((HR.out.setLo ByteArray.empty).setHi s).c2
      go_wp2
      exact bodyPost_ret (v:=.tuple #[.agg #[.int .i64 0,.string ByteArray.empty,.string s],.bool false]) (by simp[results,Tryz.results37,go_sem,xI r0,yI r1,AI r2]) rfl (RO.no (((HR.out.setLo ByteArray.empty).setHi s).bel3 _ _ _) HN.out)
   ·have HUq:Hid (∀k l,Lab s k l→k=i):=fun k l h=>by
     cases l
     ·exact HU1.out k h
     ·have:=(HU2.out k h).1
      omega
    have e0:((i:Int)==0)=false:=by simp;omega
    have HZi:=kB (HZ.out (by omega))
    have hiz':(i:Int)≤s.size:=by omega
    obtain⟨v,hv⟩:∃v,v=vd ((bl s).take i):=⟨_,rfl⟩
    have HNo:Hid ((v:Int)=tU s i false):=by show _=_;rw[hv];rfl
    have HLo:Hid ((⟨#[]⟩:ByteArray)=qQ s i false):=rfl
    rw[←hv] at HR hvb
    clear hv
    have q2:=HR.out.c2
    have qf2:=HR.out.f2
    rcases Nat.lt_or_ge i s.size with hsz|hsz
    ·have hiz:(i:Int)<s.size:=by omega
     have HI:=kB (fun w=>fP s[i] w)
     rw[HKe.out hsz] at HI
     have e0':((i:Int)==0)=false:=by simp;omega
     by_cases c2:2<s.size - i
     ·have h2:(2:Int)<((s.size - i:Nat):Int):=by omega
      have HN:Hid (¬∃k l,Lab s k l):=by
       rintro ⟨k,l,h⟩
       have hk:=HUq.out k l h
       have h1:=h.k1
       have h2:=h.kc
       omega
      go_wp2_with fail
      refine(HI.out _).mono ?_
      rintro e w9 ⟨rfl,ew⟩
      subst w9
      have r0:=(HR.out.setHi (s.extract i s.size)).r0
      have r1:=(HR.out.setHi (s.extract i s.size)).r1
      have r2:=(HR.out.setHi (s.extract i s.size)).r2
      have g0:=(HR.out.setHi (s.extract i s.size)).g0
      have g1:=(HR.out.setHi (s.extract i s.size)).g1
      have g2:=(HR.out.setHi (s.extract i s.size)).g2
      have c0:=(HR.out.setHi (s.extract i s.size)).c0
      have c1:=(HR.out.setHi (s.extract i s.size)).c1
      have c2:=(HR.out.setHi (s.extract i s.size)).c2
      go_wp2
      exact bodyPost_ret (v:=.tuple #[.agg #[.int .i64 (v:Int),.string ⟨#[]⟩,.string (s.extract i s.size)],.bool false]) (by simp[results,Tryz.results37,go_sem,xI r0,yI r1,AI r2]) rfl (RO.no ((HR.out.setHi (s.extract i s.size)).bel3 _ _ _) HN.out)
     have h2:((s.size - i:Nat):Int)≤2:=by omega
     go_wp2_with fail
     refine(HI.out _).mono ?_
     rintro e w9 ⟨rfl,ew⟩
     subst w9
     have H3:=kB ((HR.out.setHi (s.extract i s.size)))
     have c2':=H3.out.c2
     go_wp2_with fail
     go_loop [6] (fun t=>∃m:Nat,m≤s.size - i∧t=.int .i64 m∧AllP GG s i (i+m)) (fun t=>s.size - (RowKit.intOf t).toNat)
     case atStart=>exact⟨0,by omega,rfl,fun i hi a b=>by omega⟩
     case round=>
      obtain⟨m,hm,rfl,hall⟩:=hrel
      have HAll:=kB hall
      clear hall
      by_cases hml:m<s.size - i
      ·have hmz:(m:Int)<((s.size - i:Nat):Int):=by omega
       have hKm:i+m<s.size:=by omega
       have hxz:m<(s.extract i s.size).size:=by simp[ByteArray.size_extract];omega
       have ex:(s.extract i s.size)[m]=s[i+m]:=by simp[ByteArray.getElem_extract]
       have HI3:=kB (fun w=>sR (s.extract i s.size)[m] w)
       have ecp:GG (s.extract i s.size)[m].toNat=GG s[i+m].toNat:=by rw[ex]
       cases hcp:GG s[i+m].toNat
       ·rw[ecp,hcp] at HI3
        have HN:Hid (¬∃k l,Lab s k l):=by
         rintro ⟨k,l,h⟩
         have hk:=HUq.out k l h
         have:=h.cap (i+m) hKm (by omega) (by omega)
         rw[hcp] at this
         cases this
        clear hcp ecp ex
        go_wp2_with fail
        refine(HI3.out _).mono ?_
        rintro e w8 ⟨rfl,ew⟩
        subst w8
        have r0:=H3.out.r0
        have r1:=H3.out.r1
        have r2:=H3.out.r2
        have g0:=H3.out.g0
        have g1:=H3.out.g1
        have g2:=H3.out.g2
        have c0:=H3.out.c0
        have c1:=H3.out.c1
        have c2:=H3.out.c2
        go_wp2
        exact bodyPost_ret (v:=.tuple #[.agg #[.int .i64 (v:Int),.string ⟨#[]⟩,.string (s.extract i s.size)],.bool false]) (by simp[results,Tryz.results37,go_sem,xI r0,yI r1,AI r2]) rfl (RO.no (H3.out.bel3 _ _ _) HN.out)
       ·rw[ecp,hcp] at HI3
        have HA2:Hid (AllP GG s i (i+(m+1))):=AllP.snoc hKm hcp HAll.out
        clear hcp ecp ex
        go_wp2_with fail
        refine(HI3.out _).mono ?_
        rintro e w8 ⟨rfl,ew⟩
        subst w8
        go_wp2
        go_round
        case rel=>exact⟨m+1,by omega,by go_num,HA2.out⟩
        case measure=>simp[RowKit.intOf];omega
      ·obtain rfl:m=s.size - i:=by omega
       have HLb:Hid (Lab s i false):=by
        have hal:=HAll.out
        rw[show i+(s.size - i)=s.size by omega] at hal
        exact⟨by omega,by omega,by omega,by omega,hal,.inl ⟨rfl,HAd.out,HZi.out⟩⟩
       have r0:=H3.out.r0
       have r1:=H3.out.r1
       have r2:=H3.out.r2
       have g0:=H3.out.g0
       have g1:=H3.out.g1
       have g2:=H3.out.g2
       have c0:=H3.out.c0
       have c1:=H3.out.c1
       have c2:=H3.out.c2
       go_wp2
       exact bodyPost_ret (v:=.tuple #[.agg #[.int .i64 (v:Int),.string ⟨#[]⟩,.string (s.extract i s.size)],.bool true]) (by simp[results,Tryz.results37,go_sem,xI r0,yI r1,AI r2]) rfl (RO.yes (H3.out.bel3 _ _ _) HLb.out HNo.out HLo.out rfl)
    ·have d0:decide ((i:Int)<s.size)=false:=by simp;omega
     have e0':((i:Int)==0)=false:=by simp;omega
     have h2:((s.size - i:Nat):Int)≤2:=by omega
     have H3:=kB ((HR.out.setHi (s.extract i s.size)))
     have c2':=H3.out.c2
     go_wp2_with fail
     go_loop [6] (fun t=>∃m:Nat,m≤s.size - i∧t=.int .i64 m∧AllP GG s i (i+m)) (fun t=>s.size - (RowKit.intOf t).toNat)
     case atStart=>exact⟨0,by omega,rfl,fun i hi a b=>by omega⟩
     case round=>
      obtain⟨m,hm,rfl,hall⟩:=hrel
      have HAll:=kB hall
      clear hall
      by_cases hml:m<s.size - i
      ·exfalso;omega
      ·obtain rfl:m=s.size - i:=by omega
       have HLb:Hid (Lab s i false):=by
        have hal:=HAll.out
        rw[show i+(s.size - i)=s.size by omega] at hal
        exact⟨by omega,by omega,by omega,by omega,hal,.inl ⟨rfl,HAd.out,HZi.out⟩⟩
       have r0:=H3.out.r0
       have r1:=H3.out.r1
       have r2:=H3.out.r2
       have g0:=H3.out.g0
       have g1:=H3.out.g1
       have g2:=H3.out.g2
       have c0:=H3.out.c0
       have c1:=H3.out.c1
       have c2:=H3.out.c2
       go_wp2
       exact bodyPost_ret (v:=.tuple #[.agg #[.int .i64 (v:Int),.string ⟨#[]⟩,.string (s.extract i s.size)],.bool true]) (by simp[results,Tryz.results37,go_sem,xI r0,yI r1,AI r2]) rfl (RO.yes (H3.out.bel3 _ _ _) HLb.out HNo.out HLo.out rfl)
end Go.Proofs.YtpbolcjcmkmalaaGreatDoor

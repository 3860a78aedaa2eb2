import Derived.Test.YtehbinobohjadaaGreatDoorTm00
import Derived.Test.YtehbinobohjadaaGreatDoorTm24
import Derived.Test.YtehbinobohjadaaGreatDoorTm11
import Derived.Test.YtehbinobohjadaaGreatDoorTm10
import Derived.Deep.LoopGhost
set_option maxHeartbeats 20000000
set_option maxRecDepth 20000
namespace Go.Proofs.YtehbinobohjadaaGreatDoor
open Go.RowKit Go.Extern.Stop Go.Stop Go.Extern
theorem lO(w:World)(x0 x1 x2 x3:Value)(T:TypeId):∀(j:Nat) (u:Value),[x0,x1,x2,x3][j]?=some u→(w.alloc (.cells #[x0,x1,x2,x3] T)).cell? ((⟨w.heap.size,0,none⟩:Addr).add j)=some u:=by
 intro j u hj
 match j,hj with
 |0,hj=>simp at hj;subst hj;simp[Addr.add]
 |1,hj=>simp at hj;subst hj;simp[Addr.add]
 |2,hj=>simp at hj;subst hj;simp[Addr.add]
 |3,hj=>simp at hj;subst hj;simp[Addr.add]
theorem mO(t:Tok):∀u∈[jH t 0,jH t 1,jH t 2,jH t 3],u.oneCell'=true:=by
 intro u hu
 simp only[List.mem_cons,List.not_mem_nil,or_false] at hu
 rcases hu with rfl|rfl|rfl|rfl<;>rfl
def CU(w:World)(ts:List Tok)(e:Ending)(w':World):Prop:=∃a cap,e=.returned (.slice a ts.length cap)∧TAt w.heap.size w' (.slice a ts.length cap) ts∧Below w.heap.size w w'
theorem TokInv.here{s:ByteArray}{p i k:Nat}{ts:List Tok}(h:TokInv s p ts i)(hk:k=i+BA RE s i)(hj:k<s.size)(hg:∀t,t∈VH s p→t.kind≠.b):(bG s k hj).kind≠.b:=by
 subst hk
 obtain⟨f,_,e⟩:=(h.next hj).eq
 exact hg _ (by rw[e];simp)
theorem TkIs.kd{s:ByteArray}{j:Nat}{h:j<s.size}{k:TK}{c z:Nat}(t:TkIs s j h k c z):(bG s j h).kind=k:=by rw[t.1]
theorem tM(wr:World)(o:Obj)(x:ByteArray):Calls Tryz.prog 28 #[.string x,.slice (some ⟨wr.heap.size+1,0,none⟩) 14 14] ((wr.alloc o).alloc (.cells #[.string ⟨#[58]⟩,.string ⟨#[44]⟩,.string ⟨#[40]⟩,.string ⟨#[41]⟩,.string ⟨#[60]⟩,.string ⟨#[61]⟩,.string ⟨#[62]⟩,.string ⟨#[43]⟩,.string ⟨#[45]⟩,.string ⟨#[42]⟩,.string ⟨#[37]⟩,.string ⟨#[59]⟩,.string ⟨#[91]⟩,.string ⟨#[93]⟩] 9)) fun e w'=>e=.returned (.int .i64 (aD signW x))∧w'=(wr.alloc o).alloc (.cells #[.string ⟨#[58]⟩,.string ⟨#[44]⟩,.string ⟨#[40]⟩,.string ⟨#[41]⟩,.string ⟨#[60]⟩,.string ⟨#[61]⟩,.string ⟨#[62]⟩,.string ⟨#[43]⟩,.string ⟨#[45]⟩,.string ⟨#[42]⟩,.string ⟨#[37]⟩,.string ⟨#[59]⟩,.string ⟨#[91]⟩,.string ⟨#[93]⟩] 9):=by
 refine zF signW (wr.heap.size+1) 0 14 _ (fun i s hs=>?_) (by decide) x
 have h:=sE (wr.alloc o) [.string ⟨#[58]⟩,.string ⟨#[44]⟩,.string ⟨#[40]⟩,.string ⟨#[41]⟩,.string ⟨#[60]⟩,.string ⟨#[61]⟩,.string ⟨#[62]⟩,.string ⟨#[43]⟩,.string ⟨#[45]⟩,.string ⟨#[42]⟩,.string ⟨#[37]⟩,.string ⟨#[59]⟩,.string ⟨#[91]⟩,.string ⟨#[93]⟩] 9 i (.string s) (by show (signW.map Value.string)[i]?=_;rw[List.getElem?_map,hs];rfl)
 have hz:(wr.alloc o).heap.size=wr.heap.size+1:=by simp
 rw[hz] at h
 exact h
def TokBk(wr wx:World)(kd:TK)(k:Nat):Prop:=Below wr.heap.size wr wx∧wx.heap[wr.heap.size]?=some (.cells #[.string (kB kd),.string ⟨#[]⟩,.int .i64 k,.int .i64 0] 82 (0,0))
theorem zE(wr:World)(kd:TK)(k:Nat):TokBk wr (wr.alloc (.cells #[.string (kB kd),.string ⟨#[]⟩,.int .i64 k,.int .i64 0] 82)) kd k:=⟨bA _ _,heap_alloc_new _ _⟩
theorem QR(wr:World)(kd:TK)(k:Nat)(o:Obj):TokBk wr ((wr.alloc (.cells #[.string (kB kd),.string ⟨#[]⟩,.int .i64 k,.int .i64 0] 82)).alloc o) kd k:=by
 obtain⟨h1,h2⟩:=zE wr kd k
 refine⟨h1.alloc h1.size _,?_⟩
 rw[Go.Deep.blk_alloc_lt _ _ _ (by simp)]
 exact h2
theorem TokBk.text{wr wx:World}{kd:TK}{k:Nat}(h:TokBk wr wx kd k)(x:ByteArray):Below wr.heap.size wr (wx.setCell ⟨wr.heap.size,1,none⟩ (.string x))∧(wx.setCell ⟨wr.heap.size,1,none⟩ (.string x)).heap[wr.heap.size]?=some (.cells #[.string (kB kd),.string x,.int .i64 k,.int .i64 0] 82 (0,0)):=
 ⟨h.1.setCell (nR _) _,by rw[LA h.2];rfl⟩
theorem WU(w:World):Calls Tryz.prog 60 #[.int .u8 46] w fun e w'=>e=.returned (.bool false)∧w'=w:=wK 46 w
set_option maxHeartbeats 40000000 in
set_option maxRecDepth 10000 in
theorem jM(s:ByteArray)(p:Nat)(hp:p≤s.size)(hs:s.size≤3000)(hg:∀t,t∈VH s p→t.kind≠.b)(w:World):Calls Tryz.prog 29 #[.string s,.int .i64 p] w (CU w (VH s p)):=by
 obtain⟨i0,iz,hI⟩:=Tryz.infoTok
 have HI:=aA hI
 have HG:=aA hg
 have HT0:=aA (TokInv.start s p hp)
 have HA0:Hid (TAt w.heap.size w (.slice none 0 0) []):=⟨rfl,.inl ⟨rfl,rfl⟩⟩
 clear hI hg
 go_enter Tryz.func29,Tryz.ntmps29
 go_wp2_with fail
 go_loopw [1,5] (fun y v wr=>∃(i:Nat) (ts:List Tok) (a:Option Addr) (c:Nat),y=.int .i64 i∧v=.slice a ts.length c∧TokInv s p ts i∧TAt w.heap.size wr v ts∧Below w.heap.size w wr) (fun y _ _=>(s.size - RowKit.intOf y).toNat)
 case atStart=>exact⟨p,[],none,0,rfl,rfl,HT0.out,HA0.out,Below.refl _ _⟩
 case round=>
  obtain⟨i,ts,a,c,rfl,rfl,hT,hA,hB⟩:=hrel
  have hil:=hT.le
  have hfew:=hT.few
  have HT:=aA hT
  have HA:=aA hA
  have HB:=aA hB
  have hrun:=xR RE s i hil
  clear hT hA hB HT0 HA0
  have HKD:Hid (∀W:World,(∀k,k<wr.heap.size→W.heap[k]?=wr.heap[k]?)→W.ownsRow w.heap.size 82 4 (.slice a ts.length c) ts.length (nC ts)):=fun W hW=>mC HA.out fun k _ hk=>hW k hk
  have hBs:=HB.out.size
  go_wp2_with fail
  go_loopw [1] (fun y wr'=>∃k:Nat,y=.int .i64 k∧wr'=wr∧i≤k∧k≤s.size∧Hid (k+BA RE s k=i+BA RE s i)) (fun y _=>(s.size - RowKit.intOf y).toNat)
  case atStart=>exact⟨i,rfl,rfl,nR _,hil,rfl⟩
  case round=>
   obtain⟨k,rfl,rfl,hik,hks,HK⟩:=hrel
   by_cases hin:k<s.size
   ·have hkz:(k:Int)<s.size:=by omega
    by_cases hb:s[k].toNat=32
    ·have HK2:Hid (k+1+BA RE s (k+1)=i+BA RE s i):=by
      have h1:=oI RE s k hin (by unfold RE;rw[beq_iff_eq];exact UInt8.toNat_inj.1 hb)
      have h2:=HK.out
      show _=_
      omega
     go_wp2
     go_roundw
     case rel=>exact⟨k+1,by go_num,trivial,by omega,by omega,HK2⟩
     case measure=>simp[RowKit.intOf];omega
    ·have hkn:¬k=s.size:=by omega
     have HN:Hid (k=i+BA RE s i):=by
      have h1:=fH RE s k hin (by unfold RE;rw[beq_iff_eq];intro e;exact hb (by rw[e];rfl))
      have h2:=HK.out
      show _=_
      omega
     have HKb:Hid ((bG s k hin).kind≠.b):=HT.out.here HN.out hin HG.out
     have HLo:=aA (SN s[k])
     have HNu:=aA (wK s[k])
     have HWd:=aA GM
     have HNg:=aA wK
     clear HK
     go_upto_if 44 with (first|(go_at_call 60;refine(HNu.out _).mono ?_;rintro e w' ⟨rfl,rfl⟩)|(go_at_call 59;refine(HLo.out _).mono ?_;rintro e w' ⟨rfl,rfl⟩)|fail)
     go_cut [6,8,9,10] from 11 to 151 (fun y _ _ _ wx=>∃(kd:TK) (z:Nat),y=.int .i64 z∧TkIs s k hin kd 0 z∧k<z∧z≤s.size∧TokBk wr wx kd k)
     case first=>
      by_cases hlo:PB s[k]=true
      ·rw[hlo]
       go_wp2_with fail
       go_loopg [6] (s.size - (k+1)) (fun g y w'=>∃z:Nat,y=.int .i64 z∧w'=wr.alloc (.cells #[.string ⟨#[119]⟩,.string ⟨#[]⟩,.int .i64 k,.int .i64 0] 82)∧k+1≤z∧z≤s.size∧z+g=s.size∧Hid (z+BA JA s z=k+1+BA JA s (k+1)))
       case atStart=>exact⟨k+1,by go_num,rfl,nR _,hin,by omega,rfl⟩
       case round=>
        obtain⟨z,rfl,hw',hz1,hz2,hzg,HZ⟩:=hrel
        subst hw'
        by_cases hzin:z<s.size
        ·have hzz:(z:Int)<s.size:=by omega
         have hzd:decide ((z:Int)<s.size)=true:=by simpa using hzz
         have HWz:=aA (HWd.out s[z])
         by_cases hwd:JA s[z]=true
         ·rw[hwd] at HWz
          have HZ2:Hid (z+1+BA JA s (z+1)=k+1+BA JA s (k+1)):=by
           have h1:=oI JA s z hzin hwd
           have h2:=HZ.out
           show _=_
           omega
          go_wp2_with (go_at_call 61;refine(HWz.out _).mono ?_;rintro e w' ⟨rfl,rfl⟩)
          go_roundg (gk - 1)
          case rel=>exact⟨z+1,by go_num,rfl,by omega,by omega,by omega,HZ2⟩
          case measure=>omega
         ·have HZ3:=fH JA s z hzin hwd
          have HZ4:=HZ.out
          have hwf:JA s[z]=false:=by simpa using hwd
          rw[hwf] at HWz
          have hZ:z=k+(1+BA JA s (k+1)):=by omega
          have h24:¬24<1+BA JA s (k+1):=fun h=>HKb.out (cM hin hlo h).kd
          have HTk:Hid (TkIs s k hin .w 0 z):=by show TkIs _ _ _ _ _ _;rw[hZ];exact kO hin hlo h24
          have h24i:¬(24:Int)<(z:Int) - k:=by omega
          have h24d:decide ((24:Int)<(z:Int) - k)=false:=by simpa using h24i
          clear hZ h24 HZ3 HZ4
          go_wp2_with (go_at_call 61;refine(HWz.out _).mono ?_;rintro e w' ⟨rfl,rfl⟩)
          go_meet
          exact⟨.w,z,rfl,HTk.out,by omega,by omega,zE wr .w k⟩
        ·have hzz:¬(z:Int)<s.size:=by omega
         have hzd:decide ((z:Int)<s.size)=false:=by simpa using hzz
         have HZ3:=nI JA s z (by omega)
         have HZ4:=HZ.out
         have hZ:z=k+(1+BA JA s (k+1)):=by omega
         have h24:¬24<1+BA JA s (k+1):=fun h=>HKb.out (cM hin hlo h).kd
         have HTk:Hid (TkIs s k hin .w 0 z):=by show TkIs _ _ _ _ _ _;rw[hZ];exact kO hin hlo h24
         have h24i:¬(24:Int)<(z:Int) - k:=by omega
         have h24d:decide ((24:Int)<(z:Int) - k)=false:=by simpa using h24i
         clear hZ h24 HZ3 HZ4
         go_wp2_with fail
         go_meet
         exact⟨.w,z,rfl,HTk.out,by omega,by omega,zE wr .w k⟩
      ·have hlf:PB s[k]=false:=by simpa using hlo
       by_cases hnu:lA s[k]=true
       ·rw[hlf,hnu]
        go_wp2_with fail
        go_loopg [6] (s.size - (k+1)) (fun g y w'=>∃z:Nat,y=.int .i64 z∧w'=wr.alloc (.cells #[.string ⟨#[110]⟩,.string ⟨#[]⟩,.int .i64 k,.int .i64 0] 82)∧k+1≤z∧z≤s.size∧z+g=s.size∧Hid (z+BA lA s z=k+1+BA lA s (k+1)))
        case atStart=>exact⟨k+1,by go_num,rfl,nR _,hin,by omega,rfl⟩
        case round=>
         obtain⟨z,rfl,hw',hz1,hz2,hzg,HZ⟩:=hrel
         subst hw'
         by_cases hzin:z<s.size
         ·have hzz:(z:Int)<s.size:=by omega
          have hzd:decide ((z:Int)<s.size)=true:=by simpa using hzz
          have HNz:=aA (HNg.out s[z])
          by_cases hwd:lA s[z]=true
          ·rw[hwd] at HNz
           have HZ2:Hid (z+1+BA lA s (z+1)=k+1+BA lA s (k+1)):=by
            have h1:=oI lA s z hzin hwd
            have h2:=HZ.out
            show _=_
            omega
           go_wp2_with (go_at_call 60;refine(HNz.out _).mono ?_;rintro e w' ⟨rfl,rfl⟩)
           go_roundg (gk - 1)
           case rel=>exact⟨z+1,by go_num,rfl,by omega,by omega,by omega,HZ2⟩
           case measure=>omega
          ·have HZ3:=fH lA s z hzin hwd
           have HZ4:=HZ.out
           have hwf:lA s[z]=false:=by simpa using hwd
           rw[hwf] at HNz
           have hZ:z=k+(1+BA lA s (k+1)):=by omega
           have h12i:¬(12:Int)<(z:Int) - k:=by
            have h12:¬12<1+BA lA s (k+1):=fun h=>by
             by_cases hp:AB (s.data.toList.drop (k+1+BA lA s (k+1)))=true
             ·exact HKb.out (bM hin hnu h hp).kd
             ·exact HKb.out (iO hin hnu h hp).kd
            omega
           have h12d:decide ((12:Int)<(z:Int) - k)=false:=by simpa using h12i
           have HZZ:=aA hZ
           clear hZ HZ3 HZ4
           by_cases hz3:z+2<s.size
           ·have hz2i:(z:Int)+2<s.size:=by omega
            have hz2d:decide ((z:Int)+2<s.size)=true:=by simpa using hz2i
            have hza:(z:Int)+1<s.size:=by omega
            have hzb:((z:Int)+1).toNat=z+1:=by omega
            have hzc:((z:Int)+2).toNat=z+2:=by omega
            have HN1:=aA (HNg.out s[z+1])
            have HN2:=aA (HNg.out s[z+2])
            by_cases hq0:s[z].toNat=46
            ·have HN46:=aA WU
             have hq0d:((s[z].toNat:Int)==46)=true:=by rw[beq_iff_eq];omega
             by_cases hq1:lA s[z+1]=true
             ·rw[hq1] at HN1
              by_cases hq2:lA s[z+2]=true
              ·have HPt:Hid (AB (s.data.toList.drop z)=true):=by show _=_;rw[JE];exact⟨hz3,hq0,hq1,hq2⟩
               have hz3i:(z:Int)+3≤s.size:=by omega
               rw[hq2] at HN2
               have HTk:Hid (TkIs s k hin .n 0 (z+3)):=by
                show TkIs _ _ _ _ _ _
                have h9:=HZZ.out
                rw[show (z+3)=k+(1+BA lA s (k+1)+3) by omega]
                exact pT hin hnu (by omega) (by rw[show k+1+BA lA s (k+1)=z by omega];exact HPt.out)
               generalize hc0:s[z]=c0 at *
               generalize hc1:s[z+1]=c1 at *
               generalize hc2:s[z+2]=c2 at *
               go_wp2_with (first|(go_at_call 60;refine(HN46.out _).mono ?_;rintro e w' ⟨rfl,rfl⟩)|(go_at_call 60;refine(HNz.out _).mono ?_;rintro e w' ⟨rfl,rfl⟩)|(go_at_call 60;refine(HN1.out _).mono ?_;rintro e w' ⟨rfl,rfl⟩)|(go_at_call 60;refine(HN2.out _).mono ?_;rintro e w' ⟨rfl,rfl⟩))
               go_meet
               exact⟨.n,(z+3),by go_num,HTk.out,by omega,by omega,zE wr .n k⟩
              ·rw[show lA s[z+2]=false by simpa using hq2] at HN2
               have HPt:Hid (¬AB (s.data.toList.drop z)=true):=by show ¬_;rw[JE];rintro ⟨h1,h2,h3,h4⟩;first|omega|(exact hq0 h2)|(exact hq1 h3)|(exact hq2 h4)
               have HTk:Hid (TkIs s k hin .n 0 z):=by
                show TkIs _ _ _ _ _ _
                have h9:=HZZ.out
                rw[show z=k+(1+BA lA s (k+1)) by omega]
                exact rJ hin hnu (by omega) (by rw[show k+1+BA lA s (k+1)=z by omega];exact HPt.out)
               generalize hc0:s[z]=c0 at *
               generalize hc1:s[z+1]=c1 at *
               generalize hc2:s[z+2]=c2 at *
               go_wp2_with (first|(go_at_call 60;refine(HN46.out _).mono ?_;rintro e w' ⟨rfl,rfl⟩)|(go_at_call 60;refine(HNz.out _).mono ?_;rintro e w' ⟨rfl,rfl⟩)|(go_at_call 60;refine(HN1.out _).mono ?_;rintro e w' ⟨rfl,rfl⟩)|(go_at_call 60;refine(HN2.out _).mono ?_;rintro e w' ⟨rfl,rfl⟩))
               go_meet
               exact⟨.n,z,by go_num,HTk.out,by omega,by omega,zE wr .n k⟩
             ·rw[show lA s[z+1]=false by simpa using hq1] at HN1
              have HPt:Hid (¬AB (s.data.toList.drop z)=true):=by show ¬_;rw[JE];rintro ⟨h1,h2,h3,h4⟩;first|omega|(exact hq0 h2)|(exact hq1 h3)|(exact hq2 h4)
              have HTk:Hid (TkIs s k hin .n 0 z):=by
               show TkIs _ _ _ _ _ _
               have h9:=HZZ.out
               rw[show z=k+(1+BA lA s (k+1)) by omega]
               exact rJ hin hnu (by omega) (by rw[show k+1+BA lA s (k+1)=z by omega];exact HPt.out)
              generalize hc0:s[z]=c0 at *
              generalize hc1:s[z+1]=c1 at *
              generalize hc2:s[z+2]=c2 at *
              go_wp2_with (first|(go_at_call 60;refine(HN46.out _).mono ?_;rintro e w' ⟨rfl,rfl⟩)|(go_at_call 60;refine(HNz.out _).mono ?_;rintro e w' ⟨rfl,rfl⟩)|(go_at_call 60;refine(HN1.out _).mono ?_;rintro e w' ⟨rfl,rfl⟩))
              go_meet
              exact⟨.n,z,by go_num,HTk.out,by omega,by omega,zE wr .n k⟩
            ·have hq0d:((s[z].toNat:Int)==46)=false:=by rw[beq_eq_false_iff_ne];omega
             have HPt:Hid (¬AB (s.data.toList.drop z)=true):=by show ¬_;rw[JE];rintro ⟨h1,h2,h3,h4⟩;first|omega|(exact hq0 h2)|(exact hq1 h3)|(exact hq2 h4)
             have HTk:Hid (TkIs s k hin .n 0 z):=by
              show TkIs _ _ _ _ _ _
              have h9:=HZZ.out
              rw[show z=k+(1+BA lA s (k+1)) by omega]
              exact rJ hin hnu (by omega) (by rw[show k+1+BA lA s (k+1)=z by omega];exact HPt.out)
             generalize hc0:s[z]=c0 at *
             go_wp2_with (first|(go_at_call 60;refine(HNz.out _).mono ?_;rintro e w' ⟨rfl,rfl⟩))
             go_meet
             exact⟨.n,z,by go_num,HTk.out,by omega,by omega,zE wr .n k⟩
           ·have hz2i:¬(z:Int)+2<s.size:=by omega
            have hz2d:decide ((z:Int)+2<s.size)=false:=by simpa using hz2i
            have HPt:Hid (¬AB (s.data.toList.drop z)=true):=by show ¬_;rw[JE];rintro ⟨h1,h2,h3,h4⟩;first|omega|(exact hq0 h2)|(exact hq1 h3)|(exact hq2 h4)
            have HTk:Hid (TkIs s k hin .n 0 z):=by
             show TkIs _ _ _ _ _ _
             have h9:=HZZ.out
             rw[show z=k+(1+BA lA s (k+1)) by omega]
             exact rJ hin hnu (by omega) (by rw[show k+1+BA lA s (k+1)=z by omega];exact HPt.out)
            generalize hc0:s[z]=c0 at *
            go_wp2_with (first|(go_at_call 60;refine(HNz.out _).mono ?_;rintro e w' ⟨rfl,rfl⟩))
            go_meet
            exact⟨.n,z,by go_num,HTk.out,by omega,by omega,zE wr .n k⟩
         ·have hzz:¬(z:Int)<s.size:=by omega
          have hzd:decide ((z:Int)<s.size)=false:=by simpa using hzz
          have HZ3:=nI lA s z (by omega)
          have HZ4:=HZ.out
          have hZ:z=k+(1+BA lA s (k+1)):=by omega
          have h12i:¬(12:Int)<(z:Int) - k:=by
           have h12:¬12<1+BA lA s (k+1):=fun h=>by
            by_cases hp:AB (s.data.toList.drop (k+1+BA lA s (k+1)))=true
            ·exact HKb.out (bM hin hnu h hp).kd
            ·exact HKb.out (iO hin hnu h hp).kd
           omega
          have h12d:decide ((12:Int)<(z:Int) - k)=false:=by simpa using h12i
          have HZZ:=aA hZ
          clear hZ HZ3 HZ4
          have hz2i:¬(z:Int)+2<s.size:=by omega
          have hz2d:decide ((z:Int)+2<s.size)=false:=by simpa using hz2i
          have HPt:Hid (¬AB (s.data.toList.drop z)=true):=by show ¬_;rw[JE];rintro ⟨h1,h2,h3,h4⟩;first|omega|(exact hq0 h2)|(exact hq1 h3)|(exact hq2 h4)
          have HTk:Hid (TkIs s k hin .n 0 z):=by
           show TkIs _ _ _ _ _ _
           have h9:=HZZ.out
           rw[show z=k+(1+BA lA s (k+1)) by omega]
           exact rJ hin hnu (by omega) (by rw[show k+1+BA lA s (k+1)=z by omega];exact HPt.out)
          go_wp2_with fail
          go_meet
          exact⟨.n,z,by go_num,HTk.out,by omega,by omega,zE wr .n k⟩
       ·have hnf:lA s[k]=false:=by simpa using hnu
        have hk1z:(k:Int)+1≤s.size:=by omega
        have hk2z:((k:Int)+1).toNat=k+1:=by omega
        have hk3z:(0:Int)≤(k:Int)+1:=by omega
        have hk4z:(k:Int)≤(k:Int)+1:=by omega
        have HAm:=aA (fun o=>tM wr o (s.extract k (k+1)))
        by_cases h2:k+1<s.size
        ·have h2z:(k:Int)+1<s.size:=by omega
         have h22z:(k:Int)+2≤s.size:=by omega
         have h23z:((k:Int)+2).toNat=k+2:=by omega
         have h24z:(0:Int)≤(k:Int)+2:=by omega
         have h25z:(k:Int)≤(k:Int)+2:=by omega
         have htw:=DV s k h2
         generalize hx2:s.extract k (k+2)=x2 at htw
         have HX2:=aA hx2
         cases e1:(x2.toList==[60,61])
         ·cases e2:(x2.toList==[60,62])
          ·cases e3:(x2.toList==[62,61])
           ·have h3:cG (s.data.toList.drop k)=false:=by rw[htw,e1,e2,e3];rfl
            rw[←HX2.out] at e1 e2 e3
            clear htw HX2 hx2
            have h4:signsL.contains s[k]=true:=by
             cases h4:signsL.contains s[k]
             ·exact absurd (MR hin hlo hnu (by rw[h3];simp) (by rw[h4];simp)).kd HKb.out
             ·rfl
            have HTk:Hid (TkIs s k hin .s 0 (k+1)):=jO hin hlo hnu (by rw[h3];simp) h4
            have hpl:¬aD signW (s.extract k (k+1))<0:=fun h=>(eO s k hin).1 h h4
            clear h4 h3
            generalize aD signW (s.extract k (k+1))=pl at *
            go_wp2_with (go_at_call 28;refine(HAm.out _).mono ?_;rintro e w' ⟨rfl,rfl⟩)
            go_meet
            exact⟨.s,k+1,by go_num,HTk.out,by omega,by omega,QR wr .s k _⟩
           ·skip
            have HTk:Hid (TkIs s k hin .s 0 (k+2)):=dN hin hlo hnu (by rw[htw,e1,e2,e3];simp)
            rw[←HX2.out] at e1 e2 e3
            clear htw HX2 hx2
            go_wp2_with fail
            go_meet
            exact⟨.s,k+2,by go_num,HTk.out,by omega,by omega,zE wr .s k⟩
          ·skip
           have HTk:Hid (TkIs s k hin .s 0 (k+2)):=dN hin hlo hnu (by rw[htw,e1,e2];simp)
           rw[←HX2.out] at e1 e2
           clear htw HX2 hx2
           go_wp2_with fail
           go_meet
           exact⟨.s,k+2,by go_num,HTk.out,by omega,by omega,zE wr .s k⟩
         ·skip
          have HTk:Hid (TkIs s k hin .s 0 (k+2)):=dN hin hlo hnu (by rw[htw,e1];simp)
          rw[←HX2.out] at e1
          clear htw HX2 hx2
          go_wp2_with fail
          go_meet
          exact⟨.s,k+2,by go_num,HTk.out,by omega,by omega,zE wr .s k⟩
        ·have h2z:¬(k:Int)+1<s.size:=by omega
         have h3:cG (s.data.toList.drop k)=false:=AT s k hin h2
         have h4:signsL.contains s[k]=true:=by
          cases h4:signsL.contains s[k]
          ·exact absurd (MR hin hlo hnu (by rw[h3];simp) (by rw[h4];simp)).kd HKb.out
          ·rfl
         have HTk:Hid (TkIs s k hin .s 0 (k+1)):=jO hin hlo hnu (by rw[h3];simp) h4
         have hpl:¬aD signW (s.extract k (k+1))<0:=fun h=>(eO s k hin).1 h h4
         clear h4 h3
         generalize aD signW (s.extract k (k+1))=pl at *
         go_wp2_with (go_at_call 28;refine(HAm.out _).mono ?_;rintro e w' ⟨rfl,rfl⟩)
         go_meet
         exact⟨.s,k+1,by go_num,HTk.out,by omega,by omega,QR wr .s k _⟩
     case rest=>
      obtain⟨kd,z,h6,htk,hkz2,hzs,hw⟩:=hcut
      subst h6
      have HX:Hid (TokInv s p (ts++[⟨kd,s.extract k z,k,0⟩]) z):=HT.out.nextIs HN.out hin htk
      have hkz1:(k:Int)≤z:=by omega
      have hzs1:(z:Int)≤s.size:=by omega
      clear htk HKb HLo HNu HWd HNg hrun
      have f1:wc.frozen? ⟨wr.heap.size,1,none⟩=false:=by simp[World.frozen?,hw.2]
      obtain⟨hB0,hb0⟩:=hw.text (s.extract k z)
      have x1:∃y,wc.cell? ⟨wr.heap.size,1,none⟩=some y:=⟨_,by simp[World.cell?,hw.2];rfl⟩
      obtain⟨y1,x1⟩:=x1
      have d0:(wc.setCell ⟨wr.heap.size,1,none⟩ (.string (s.extract k z))).cell? ⟨wr.heap.size,0,none⟩=some (.string (kB kd)):=by simp[World.cell?,hb0]
      have d1:(wc.setCell ⟨wr.heap.size,1,none⟩ (.string (s.extract k z))).cell? ⟨wr.heap.size,1,none⟩=some (.string (s.extract k z)):=by simp[World.cell?,hb0]
      have d2:(wc.setCell ⟨wr.heap.size,1,none⟩ (.string (s.extract k z))).cell? ⟨wr.heap.size,2,none⟩=some (.int .i64 k):=by simp[World.cell?,hb0]
      have d3:(wc.setCell ⟨wr.heap.size,1,none⟩ (.string (s.extract k z))).cell? ⟨wr.heap.size,3,none⟩=some (.int .i64 0):=by simp[World.cell?,hb0]
      have HB0:=aA hB0
      have hwcs:=hw.1.size
      clear hw hB0 hb0
      have HNW:=aA (lO (wc.setCell ⟨wr.heap.size,1,none⟩ (.string (s.extract k z))) (.string (kB kd)) (.string (s.extract k z)) (.int .i64 k) (.int .i64 0) 82)
      have HOC:Hid (∀u∈[Value.string (kB kd),.string (s.extract k z),.int .i64 k,.int .i64 0],u.oneCell'=true):=mO ⟨kd,s.extract k z,k,0⟩
      have HBn:Hid (Below wr.heap.size wr ((wc.setCell ⟨wr.heap.size,1,none⟩ (.string (s.extract k z))).alloc (.cells #[Value.string (kB kd),.string (s.extract k z),.int .i64 k,.int .i64 0] 82))):=HB0.out.alloc HB0.out.size _
      go_wp2_with (at_builtin;go_loud (refine MC _ rfl (.tmp 147) (.tmp 149) 77 rfl w.heap.size 82 i0 iz 4 48 Tryz.underlying77 HI.out.1 HI.out.2.1 HI.out.2.2.1 HI.out.2.2.2.1 HI.out.2.2.2.2 (by decide) (.slice a ts.length c) ts.length (nC ts) (by simp[Act.eval]) (HKD.out _ HBn.out.block) ⟨(wc.setCell ⟨wr.heap.size,1,none⟩ (.string (s.extract k z))).heap.size,0,none⟩ 1 1 [Value.string (kB kd),.string (s.extract k z),.int .i64 k,.int .i64 0] (by simp[Act.eval]) rfl HNW.out HOC.out (by decide) (by unfold maxLen;omega) (by omega) (by simp;omega) ?_))
      intro v' w' ho hg hw9
      have HP:=aA (HA.out.push hBs HBn.out ⟨kd,s.extract k z,k,0⟩ ho hg)
      obtain⟨va,vc,hv'⟩:=pE ho
      subst hv'
      clear ho hg hw9 HNW HOC HBn
      go_wp2
      go_roundw
      case rel=>exact⟨z,ts++[⟨kd,s.extract k z,k,0⟩],va,vc,by go_num,by rw[List.length_append];rfl,HX.out,HP.out.1,HB.out.trans HP.out.2⟩
      case measure=>simp[RowKit.intOf];omega
   ·have hn:k=s.size:=by omega
    have hkz:¬(k:Int)<s.size:=by omega
    have hkq:((k:Int)==(s.size:Int))=true:=by rw[beq_iff_eq];omega
    have HE:Hid (VH s p=ts++[⟨.e,⟨#[]⟩,k,0⟩]):=by
     have h1:=HK.out
     rw[nI RE s k (by omega)] at h1
     have h2:=HT.out.last (by omega)
     rw[←hn] at h2
     exact h2
    clear hn
    have HB0:Hid (Below wr.heap.size wr wr):=Below.refl _ _
    have HNW:=aA (lO (wr) (.string ⟨#[101]⟩) (.string ⟨#[]⟩) (.int .i64 k) (.int .i64 0) 82)
    have HOC:Hid (∀u∈[Value.string ⟨#[101]⟩,.string ⟨#[]⟩,.int .i64 k,.int .i64 0],u.oneCell'=true):=mO ⟨.e,⟨#[]⟩,k,0⟩
    have HBn:Hid (Below wr.heap.size wr ((wr).alloc (.cells #[Value.string ⟨#[101]⟩,.string ⟨#[]⟩,.int .i64 k,.int .i64 0] 82))):=HB0.out.alloc HB0.out.size _
    go_wp2_with (at_builtin;go_loud (refine MC _ rfl (.tmp 27) (.tmp 30) 77 rfl w.heap.size 82 i0 iz 4 48 Tryz.underlying77 HI.out.1 HI.out.2.1 HI.out.2.2.1 HI.out.2.2.2.1 HI.out.2.2.2.2 (by decide) (.slice a ts.length c) ts.length (nC ts) (by simp[Act.eval]) (HKD.out _ HBn.out.block) ⟨(wr).heap.size,0,none⟩ 1 1 [Value.string ⟨#[101]⟩,.string ⟨#[]⟩,.int .i64 k,.int .i64 0] (by simp[Act.eval]) rfl HNW.out HOC.out (by decide) (by unfold maxLen;omega) (by omega) (by simp;omega) ?_))
    intro v' w' ho hg hw9
    have HP:=aA (HA.out.push hBs HBn.out ⟨.e,⟨#[]⟩,k,0⟩ ho hg)
    obtain⟨va,vc,hv'⟩:=pE ho
    subst hv'
    clear ho hg hw9 HNW HOC HBn
    go_wp2
    go_ret
    rw[HE.out]
    refine⟨va,vc,by rw[List.length_append];rfl,?_,HB.out.trans HP.out.2⟩
    rw[List.length_append]
    exact HP.out.1
end Go.Proofs.YtehbinobohjadaaGreatDoor

import Derived.Test.YtehbinobohjadaaGreatDoorTm00
import Derived.Test.YtehbinobohjadaaGreatDoorTm05
set_option maxHeartbeats 20000000
set_option maxRecDepth 20000
namespace Go.Proofs.YtehbinobohjadaaGreatDoor
open Go.RowKit Go.Extern.Stop Go.Stop Go.Extern
def gG(s:ByteArray):Prop:=s.size≤15∧∀(i:Nat) (h:i<s.size),s[i].toNat=46∨(48≤s[i].toNat∧s[i].toNat≤57)
theorem NA(s:ByteArray)(i:Nat)(h:i<s.size):s.data.toList.drop i=s[i]::s.data.toList.drop (i+1):=by
 have h1:i<s.data.toList.length:=by simpa using h
 rw[List.drop_eq_getElem_cons h1]
 congr 1
structure HunAt(s:ByteArray)(i m:Nat)(p:Int):Prop where
 eq:zD (s.data.toList.drop i) m (decide (0≤p))=zD s.data.toList 0 false
 lt:m<10 ^ i
 lo:-1≤p
 hi:p≤i
theorem HunAt.point{s:ByteArray}{i m:Nat}{p:Int}(h:HunAt s i m p)(hi:i<s.size)(hc:s[i].toNat=46):HunAt s (i+1) m 0:=by
 refine⟨?_,Nat.lt_of_lt_of_le h.lt (Nat.pow_le_pow_right (by omega) (by omega)),by omega,by omega⟩
 have h1:=h.eq
 rw[NA s i hi,zD,if_pos (by apply UInt8.toNat_inj.1;rw[hc];rfl)] at h1
 exact h1
theorem HunAt.digit{s:ByteArray}{i m:Nat}{p q:Int}(h:HunAt s i m p)(hi:i<s.size)(hc:48≤s[i].toNat∧s[i].toNat≤57)(hq:q=if 0≤p then p+1 else p):HunAt s (i+1) (m * 10+(s[i].toNat - 48)) q:=by
 have h0:=h.lo
 have h9:=h.hi
 refine⟨?_,?_,?_,?_⟩
 ·have h1:=h.eq
  rw[NA s i hi,zD,if_neg (fun e=>by rw[e] at hc;have:(46:UInt8).toNat=46:=rfl;omega)] at h1
  rw[show decide (0≤q)=decide (0≤p) by rw[hq];split<;>first|rfl|(rw[Bool.eq_iff_iff];simp;omega)]
  exact h1
 ·rw[Nat.pow_succ]
  have:=h.lt
  omega
 ·rw[hq];split<;>omega
 ·rw[hq];split<;>omega
theorem lK(s:ByteArray)(h:gG s)(w:World):Calls Tryz.prog 114 #[.string s] w fun e w'=>e=.returned (.int .i64 (CC s))∧w'=w:=by
 obtain⟨hs,hc⟩:=h
 have HC:=aA hc
 have HO:Hid (CC s=if (zD s.data.toList 0 false).2 then (zD s.data.toList 0 false).1 else (zD s.data.toList 0 false).1 * 100):=rfl
 clear hc
 go_enter Tryz.func114,Tryz.ntmps114
 go_wp2_with fail
 go_loop [3,4,5] (fun t3 t4 t5=>∃(i m:Nat) (p:Int),i≤s.size∧t5=.int .i64 i∧t3=.int .i64 m∧t4=.int .i64 p∧Hid (HunAt s i m p)) (fun _ _ t=>(s.size - RowKit.intOf t).toNat)
 case atStart=>exact⟨0,0,-1,by omega,rfl,rfl,rfl,⟨rfl,by simp,by omega,by omega⟩⟩
 case round=>
  obtain⟨i,m,p,hi,rfl,rfl,rfl,HA⟩:=hrel
  have hp1:=HA.out.lo
  have hp2:=HA.out.hi
  have hm:m<1000000000000000:=Nat.lt_of_lt_of_le HA.out.lt (Nat.le_trans (Nat.pow_le_pow_right (by omega) (show i≤15 by omega)) (by decide))
  by_cases hin:i<s.size
  ·have hiz:(i:Int)<s.size:=by omega
   rcases HC.out i hin with h46|hd
   ·have hz:(((s[i].toNat:Nat):Int)==46)=true:=by rw[h46];rfl
    have HN:=aA (HA.out.point hin h46)
    clear h46
    go_wp2
    go_round
    case rel=>exact⟨i+1,m,0,by omega,by go_num,rfl,rfl,HN⟩
    case measure=>simp[RowKit.intOf];omega
   ·have hz:(((s[i].toNat:Nat):Int)==46)=false:=by rw[beq_eq_false_iff_ne];omega
    have HD:=aA (fun q hq=>HA.out.digit (q:=q) hin hd hq)
    obtain⟨c,hcc⟩:∃c,s[i].toNat=c+48:=⟨s[i].toNat - 48,by omega⟩
    have hc9:c≤9:=by omega
    have hw:IntKind.u8.wrap (((s[i].toNat:Nat):Int) - 48)=(c:Int):=by rw[hcc];unfold IntKind.wrap;simp[IntKind.bits,IntKind.signed];omega
    have HV:Hid ((m:Int) * 10+(c:Int)=((m * 10+(s[i].toNat - 48):Nat):Int)):=by show _=_;rw[hcc];omega
    clear hcc hd
    by_cases hp:0≤p
    ·have hpd:decide (0≤p)=true:=by simpa using hp
     go_wp2
     go_round
     case rel=>exact⟨i+1,_,p+1,by omega,by go_num,congrArg (Value.int .i64) HV.out,rfl,HD.out (p+1) (by rw[if_pos hp])⟩
     case measure=>simp[RowKit.intOf];omega
    ·have hpd:decide (0≤p)=false:=by simpa using hp
     go_wp2
     go_round
     case rel=>exact⟨i+1,_,p,by omega,by go_num,congrArg (Value.int .i64) HV.out,rfl,HD.out p (by rw[if_neg hp])⟩
     case measure=>simp[RowKit.intOf];omega
  ·obtain rfl:i=s.size:=by omega
   have HE:=aA HA.out.eq
   by_cases hp:p<0
   ·have hpd:decide (p<0)=true:=by simpa using hp
    have HF:Hid (CC s=m * 100):=by
     show _=_
     have h1:=HE.out
     rw[List.drop_eq_nil_of_le (by simp),zD,show decide (0≤p)=false by simp;omega] at h1
     rw[HO.out,←h1]
     rfl
    go_wp2
    go_ret
    refine⟨?_,rfl⟩
    rw[HF.out]
    congr 2
   ·have hpd:decide (p<0)=false:=by simpa using hp
    have HF:Hid (CC s=m):=by
     show _=_
     have h1:=HE.out
     rw[List.drop_eq_nil_of_le (by simp),zD,show decide (0≤p)=true by simp;omega] at h1
     rw[HO.out,←h1]
     rfl
    go_wp2
    go_ret
    refine⟨?_,rfl⟩
    rw[HF.out]
    rfl
end Go.Proofs.YtehbinobohjadaaGreatDoor

import Derived.Test.YtehbinobohjadaaGreatDoorTm00
import Derived.Test.YtehbinobohjadaaGreatDoorTm21
set_option maxHeartbeats 20000000
set_option maxRecDepth 20000
namespace Go.Proofs.YtehbinobohjadaaGreatDoor
open Go.RowKit Go.Extern.Stop Go.Stop Go.Extern
theorem uH(s:ByteArray)(hs:s.size≤100000)(w:World):
 Calls Tryz.prog 73 #[.string s,.func (.func 75) #[] #[]] w fun e w'=>e=.returned (.int .i64 (s.data.toList.takeWhile lA).length)∧w'=w:=by
 have HF:=aA cI
 go_enter Tryz.func73,Tryz.ntmps73
 go_wp2_with fail
 go_loopw [8] (fun t wr=>∃i:Nat,i≤s.size∧t=.int .i64 i∧wr=w∧((s.data.toList.takeWhile lA).length=i+((s.data.toList.drop i).takeWhile lA).length)) (fun t _=>(s.size - RowKit.intOf t).toNat)
 case atStart=>exact⟨0,by omega,rfl,rfl,by simp⟩
 case round=>
  obtain⟨i,hi,rfl,rfl,hno⟩:=hrel
  have HN:=aA hno
  clear hno
  by_cases hin:i<s.size
  ·have hiz:(i:Int)<s.size:=by omega
   have HG:=aA (NA s i hin)
   cases hp:lA s[i]
   ·have HC:=aA (HF.out s[i] wr)
    rw[hp] at HC
    have HE:Hid ((s.data.toList.takeWhile lA).length=i):=by show _=_;rw[HN.out,HG.out,List.takeWhile_cons_of_neg (by rw[hp];simp)];rfl
    clear hp
    go_wp2_with fail
    refine HC.out.mono ?_
    rintro e w' ⟨rfl,rfl⟩
    go_wp2
    go_ret
    exact⟨GB (by rw[HE.out]),rfl⟩
   ·have HC:=aA (HF.out s[i] wr)
    rw[hp] at HC
    have HE:Hid ((s.data.toList.takeWhile lA).length=i+1+((s.data.toList.drop (i+1)).takeWhile lA).length):=by show _=_;rw[HN.out,HG.out,List.takeWhile_cons_of_pos hp,List.length_cons];omega
    clear hp
    go_wp2_with fail
    refine HC.out.mono ?_
    rintro e w' ⟨rfl,rfl⟩
    go_wp2
    go_roundw
    case rel=>exact⟨i+1,by omega,by go_num,trivial,HE.out⟩
    case measure=>simp[RowKit.intOf];omega
  ·obtain rfl:i=s.size:=by omega
   have HE:Hid ((s.data.toList.takeWhile lA).length=s.size):=by show _=_;rw[HN.out,List.drop_eq_nil_of_le (by rw[Array.length_toList];exact nR _)];rfl
   go_wp2
   go_ret
   exact⟨GB (by rw[HE.out]),rfl⟩
theorem gK(s:ByteArray)(hs:s.size≤100000)(w:World):
 Calls Tryz.prog 73 #[.string s,.func (.func 74) #[] #[]] w fun e w'=>e=.returned (.int .i64 (s.data.toList.takeWhile JA).length)∧w'=w:=by
 have HF:=aA CG
 go_enter Tryz.func73,Tryz.ntmps73
 go_wp2_with fail
 go_loopw [8] (fun t wr=>∃i:Nat,i≤s.size∧t=.int .i64 i∧wr=w∧((s.data.toList.takeWhile JA).length=i+((s.data.toList.drop i).takeWhile JA).length)) (fun t _=>(s.size - RowKit.intOf t).toNat)
 case atStart=>exact⟨0,by omega,rfl,rfl,by simp⟩
 case round=>
  obtain⟨i,hi,rfl,rfl,hno⟩:=hrel
  have HN:=aA hno
  clear hno
  by_cases hin:i<s.size
  ·have hiz:(i:Int)<s.size:=by omega
   have HG:=aA (NA s i hin)
   cases hp:JA s[i]
   ·have HC:=aA (HF.out s[i] wr)
    rw[hp] at HC
    have HE:Hid ((s.data.toList.takeWhile JA).length=i):=by show _=_;rw[HN.out,HG.out,List.takeWhile_cons_of_neg (by rw[hp];simp)];rfl
    clear hp
    go_wp2_with fail
    refine HC.out.mono ?_
    rintro e w' ⟨rfl,rfl⟩
    go_wp2
    go_ret
    exact⟨GB (by rw[HE.out]),rfl⟩
   ·have HC:=aA (HF.out s[i] wr)
    rw[hp] at HC
    have HE:Hid ((s.data.toList.takeWhile JA).length=i+1+((s.data.toList.drop (i+1)).takeWhile JA).length):=by show _=_;rw[HN.out,HG.out,List.takeWhile_cons_of_pos hp,List.length_cons];omega
    clear hp
    go_wp2_with fail
    refine HC.out.mono ?_
    rintro e w' ⟨rfl,rfl⟩
    go_wp2
    go_roundw
    case rel=>exact⟨i+1,by omega,by go_num,trivial,HE.out⟩
    case measure=>simp[RowKit.intOf];omega
  ·obtain rfl:i=s.size:=by omega
   have HE:Hid ((s.data.toList.takeWhile JA).length=s.size):=by show _=_;rw[HN.out,List.drop_eq_nil_of_le (by rw[Array.length_toList];exact nR _)];rfl
   go_wp2
   go_ret
   exact⟨GB (by rw[HE.out]),rfl⟩
end Go.Proofs.YtehbinobohjadaaGreatDoor

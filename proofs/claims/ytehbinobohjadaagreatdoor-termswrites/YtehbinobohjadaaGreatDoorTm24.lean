import Derived.Test.YtehbinobohjadaaGreatDoorTm00
import Derived.Test.YtehbinobohjadaaGreatDoorTm22
import Derived.Test.YtehbinobohjadaaGreatDoorTm23
set_option maxHeartbeats 20000000
set_option maxRecDepth 20000
namespace Go.Proofs.YtehbinobohjadaaGreatDoor
open Go.RowKit Go.Extern.Stop Go.Stop Go.Extern
def UB(l:List UInt8):Nat:=if AB (l.drop (l.takeWhile lA).length)=true then (l.takeWhile lA).length+3 else (l.takeWhile lA).length
theorem TI(s:ByteArray)(a b:Nat):(s.extract a b).data.toList=(s.data.toList.take b).drop a:=by
 rw[ByteArray.data_extract,Array.toList_extract,List.extract_eq_take_drop,List.drop_take]
theorem OE(s:ByteArray)(a:Nat):(s.extract a s.size).data.toList=s.data.toList.drop a:=by
 rw[TI,List.take_of_length_le (by rw[xA];exact nR _)]
theorem nG(s:ByteArray)(b:Nat):(s.extract 0 b).data.toList=s.data.toList.take b:=by
 rw[TI,List.drop_zero]
theorem jL(s:ByteArray)(n:Nat):(s.extract n s.size).size=s.size - n:=by simp only[ByteArray.size_extract];omega
theorem qW(q:UInt8→Bool)(s:ByteArray):(s.data.toList.takeWhile q).length≤s.size:=by
 have h:=(List.takeWhile_sublist q (l:=s.data.toList)).length_le
 rw[xA] at h
 exact h
theorem rR(l:List UInt8):AB l=(Lib.hasPrefix l [46]&&decide (2≤((l.drop 1).takeWhile lA).length)):=by
 match l with
 | []=>rfl
 | [a]=>simp[AB]
 | [a,b]=>
   simp only[AB,List.drop_succ_cons,List.drop_zero]
   cases h:lA b<;>simp[List.takeWhile,h]
 |a::b::c::r=>
  simp only[AB,List.drop_succ_cons,List.drop_zero]
  have e:Lib.hasPrefix (a::b::c::r) [46]=decide (a.toNat=46):=by
   rw[Bool.eq_iff_iff,decide_eq_true_eq]
   simp only[Lib.hasPrefix,List.isPrefixOf,Bool.and_true,beq_iff_eq]
   constructor
   ·rintro rfl;rfl
   ·intro h;exact(UInt8.toNat_inj.1 h).symm
  rw[e]
  cases h:lA b<;>cases h2:lA c<;>simp[List.takeWhile,h,h2]
theorem zL(s:ByteArray)(hs:s.size≤100000)(w:World):
 Calls Tryz.prog 76 #[.string s] w fun e w'=>e=.returned (.int .i64 (UB s.data.toList))∧w'=w:=by
 have H1:=aA (uH s hs w)
 have hn:=qW lA s
 have HP:=aA (rR (s.data.toList.drop (s.data.toList.takeWhile lA).length))
 have HE:Hid (UB s.data.toList=if AB (s.data.toList.drop (s.data.toList.takeWhile lA).length)=true then (s.data.toList.takeWhile lA).length+3 else (s.data.toList.takeWhile lA).length):=rfl
 generalize (s.data.toList.takeWhile lA).length=n at *
 generalize UB s.data.toList=O at *
 have H2:=aA (Go.Proofs.Tryz.strings_HasPrefix (s.extract n s.size) ⟨#[46]⟩ w)
 have H3:=aA (uH ((s.extract n s.size).extract 1 (s.extract n s.size).size) (by simp only[ByteArray.size_extract];omega) w)
 rw[OE] at H2
 rw[OE,OE,jL] at H3
 have hx:Hid (Lib.hasPrefix (s.data.toList.drop n) [46]=true→1≤(s.extract n s.size).size):=by
  show _→_
  intro h
  rw[←OE] at h
  rcases Nat.eq_zero_or_pos (s.extract n s.size).size with h0|h0
  ·have e0:(s.extract n s.size).data.toList=[]:=by
    apply List.eq_nil_of_length_eq_zero
    rw[xA];exact h0
   rw[e0] at h
   cases h
  ·exact h0
 have hcz:(s.extract n s.size).size≤100000:=by simp only[ByteArray.size_extract];omega
 have H2:Hid (Calls Tryz.prog 116 #[.string (s.extract n s.size),.string ⟨#[46]⟩] w fun e w'=>e=.returned (.bool (Lib.hasPrefix (s.data.toList.drop n) [46]))∧w'=w):=H2
 generalize AB (s.data.toList.drop n)=pb at *
 cases hp:Lib.hasPrefix (s.data.toList.drop n) [46]
 ·rw[hp] at H2 HP
  have hpb:pb=false:=by have:=HP.out;simpa using this
  subst hpb
  have HO:Hid (O=n):=HE.out
  clear HP hp hx H3 HE
  go_enter Tryz.func76,Tryz.ntmps76
  go_wp2_with (first|(go_at_call 73;refine H1.out.mono ?_;rintro e w' ⟨rfl,h9⟩;subst w')|(go_at_call 116;refine H2.out.mono ?_;rintro e w' ⟨rfl,h9⟩;subst w'))
  go_ret
  exact⟨GB (by rw[HO.out]),rfl⟩
 ·have hc1:=hx.out hp
  have hc1z:(1:Int)≤(s.extract n s.size).size:=by omega
  rw[hp] at H2 HP
  clear hp hx
  have HM:Hid (((List.drop 1 (s.data.toList.drop n)).takeWhile lA).length≤100000):=by
   have h1:=(List.takeWhile_sublist lA (l:=List.drop 1 (s.data.toList.drop n))).length_le
   rw[List.length_drop,List.length_drop,xA] at h1
   show _≤_
   omega
  generalize ((List.drop 1 (s.data.toList.drop n)).takeWhile lA).length=m at *
  have hm5:m≤100000:=HM.out
  clear HM
  by_cases h2:2≤m
  ·have h2z:(2:Int)≤m:=by omega
   have hpb:pb=true:=by have:=HP.out;simpa [h2] using this
   subst hpb
   have HO:Hid (O=n+3):=HE.out
   clear HP HE
   go_enter Tryz.func76,Tryz.ntmps76
   go_upto_region 3 with (go_at_call 73;refine H1.out.mono ?_;rintro e w' ⟨rfl,h9⟩;subst w')
   go_wp2_with (first|(go_at_call 73;refine H3.out.mono ?_;rintro e w' ⟨rfl,h9⟩;subst w')|(go_at_call 116;refine H2.out.mono ?_;rintro e w' ⟨rfl,h9⟩;subst w'))
   go_ret
   exact⟨GB (by rw[HO.out];go_num),rfl⟩
  ·have h2z:¬(2:Int)≤m:=by omega
   have hpb:pb=false:=by have:=HP.out;simpa [h2] using this
   subst hpb
   have HO:Hid (O=n):=HE.out
   clear HP HE
   go_enter Tryz.func76,Tryz.ntmps76
   go_upto_region 3 with (go_at_call 73;refine H1.out.mono ?_;rintro e w' ⟨rfl,h9⟩;subst w')
   go_wp2_with (first|(go_at_call 73;refine H3.out.mono ?_;rintro e w' ⟨rfl,h9⟩;subst w')|(go_at_call 116;refine H2.out.mono ?_;rintro e w' ⟨rfl,h9⟩;subst w'))
   go_ret
   exact⟨GB (by rw[HO.out]),rfl⟩
def EA(l:List UInt8):Nat:=if cG l=true then 2 else match l with
 |c::_=>if signsL.contains c=true then 1 else 0
 | []=>0
theorem mN{l:List UInt8}{a b:UInt8}(h:(l.take 2==[a,b])=true)(hab:cG [a,b]=true):cG l=true:=by
 match l,h with
 | [],h=>simp at h
 | [x],h=>simp at h
 |x::y::r,h=>
  simp only[List.take_succ_cons,List.take_zero,beq_iff_eq,List.cons.injEq,and_true] at h
  obtain⟨rfl,rfl⟩:=h
  exact hab
theorem BT{l:List UInt8}(h0:(l.take 2==[60,61])=false)(h1:(l.take 2==[60,62])=false)(h2:(l.take 2==[62,61])=false):cG l=false:=by
 match l with
 | []=>rfl
 | [x]=>rfl
 |x::y::r=>
  simp only[List.take_succ_cons,List.take_zero,beq_eq_false_iff_ne,ne_eq,List.cons.injEq,and_true] at h0 h1 h2
  rw[cG,decide_eq_false_iff_not]
  rintro (h|h|h)
  ·exact h0 h
  ·exact h1 h
  ·exact h2 h
theorem SA{l:List UInt8}{a:UInt8}(ht:cG l=false)(h:(l.take 1==[a])=true)(ha:signsL.contains a=true):EA l=1:=by
 match l,h with
 | [],h=>simp at h
 |x::r,h=>
  simp only[List.take_succ_cons,List.take_zero,beq_iff_eq,List.cons.injEq,and_true] at h
  subst h
  unfold EA
  rw[ht]
  simp only[Bool.false_eq_true,if_false]
  rw[if_pos ha]
theorem SJ{l:List UInt8}(ht:cG l=false)(h:∀a,a∈signsL→(l.take 1==[a])=false):EA l=0:=by
 unfold EA
 rw[ht]
 simp only[Bool.false_eq_true,if_false]
 match l with
 | []=>rfl
 |x::r=>
  show (if signsL.contains x=true then 1 else 0)=0
  rw[if_neg]
  intro hc
  have:=h x (by simpa using hc)
  simp at this
theorem qC{s:ByteArray}:(s.extract 0 1).toList=s.data.toList.take 1:=by rw[Lib.toList_data,nG]
theorem UJ{s:ByteArray}:(s.extract 0 2).toList=s.data.toList.take 2:=by rw[Lib.toList_data,nG]
theorem FK(s:ByteArray)(hs:s.size≤100000)(h1:1<s.size)(w:World):
 Calls Tryz.prog 77 #[.string s] w fun e w'=>e=.returned (.int .i64 (EA s.data.toList))∧w'=w:=by
 obtain⟨O,hO⟩:∃O,O=EA s.data.toList:=⟨_,rfl⟩
 rw[←hO]
 have HO:=aA hO
 clear hO
 have hz:(1:Int)<s.size:=by omega
 cases t0:((s.extract 0 2).toList==[60,61])
 rotate_left
 ·have HR:Hid (EA s.data.toList=2):=by show _=_;unfold EA;rw[mN (by rw[←UJ];exact t0) (by decide),if_pos rfl]
  go_enter Tryz.func77,Tryz.ntmps77
  go_wp2
  go_ret
  exact⟨GB (by rw[HO.out,HR.out];rfl),rfl⟩
 cases t1:((s.extract 0 2).toList==[60,62])
 rotate_left
 ·have HR:Hid (EA s.data.toList=2):=by show _=_;unfold EA;rw[mN (by rw[←UJ];exact t1) (by decide),if_pos rfl]
  go_enter Tryz.func77,Tryz.ntmps77
  go_wp2
  go_ret
  exact⟨GB (by rw[HO.out,HR.out];rfl),rfl⟩
 cases t2:((s.extract 0 2).toList==[62,61])
 rotate_left
 ·have HR:Hid (EA s.data.toList=2):=by show _=_;unfold EA;rw[mN (by rw[←UJ];exact t2) (by decide),if_pos rfl]
  go_enter Tryz.func77,Tryz.ntmps77
  go_wp2
  go_ret
  exact⟨GB (by rw[HO.out,HR.out];rfl),rfl⟩
 have HT:Hid (cG s.data.toList=false):=BT (by rw[←UJ];exact t0) (by rw[←UJ];exact t1) (by rw[←UJ];exact t2)
 cases k0:((s.extract 0 1).toList==[58])
 rotate_left
 ·have HR:Hid (EA s.data.toList=1):=SA HT.out (by rw[←qC];exact k0) (by decide)
  clear HT
  go_enter Tryz.func77,Tryz.ntmps77
  go_wp2
  go_ret
  exact⟨GB (by rw[HO.out,HR.out];rfl),rfl⟩
 cases k1:((s.extract 0 1).toList==[44])
 rotate_left
 ·have HR:Hid (EA s.data.toList=1):=SA HT.out (by rw[←qC];exact k1) (by decide)
  clear HT
  go_enter Tryz.func77,Tryz.ntmps77
  go_wp2
  go_ret
  exact⟨GB (by rw[HO.out,HR.out];rfl),rfl⟩
 cases k2:((s.extract 0 1).toList==[59])
 rotate_left
 ·have HR:Hid (EA s.data.toList=1):=SA HT.out (by rw[←qC];exact k2) (by decide)
  clear HT
  go_enter Tryz.func77,Tryz.ntmps77
  go_wp2
  go_ret
  exact⟨GB (by rw[HO.out,HR.out];rfl),rfl⟩
 cases k3:((s.extract 0 1).toList==[40])
 rotate_left
 ·have HR:Hid (EA s.data.toList=1):=SA HT.out (by rw[←qC];exact k3) (by decide)
  clear HT
  go_enter Tryz.func77,Tryz.ntmps77
  go_wp2
  go_ret
  exact⟨GB (by rw[HO.out,HR.out];rfl),rfl⟩
 cases k4:((s.extract 0 1).toList==[41])
 rotate_left
 ·have HR:Hid (EA s.data.toList=1):=SA HT.out (by rw[←qC];exact k4) (by decide)
  clear HT
  go_enter Tryz.func77,Tryz.ntmps77
  go_wp2
  go_ret
  exact⟨GB (by rw[HO.out,HR.out];rfl),rfl⟩
 cases k5:((s.extract 0 1).toList==[91])
 rotate_left
 ·have HR:Hid (EA s.data.toList=1):=SA HT.out (by rw[←qC];exact k5) (by decide)
  clear HT
  go_enter Tryz.func77,Tryz.ntmps77
  go_wp2
  go_ret
  exact⟨GB (by rw[HO.out,HR.out];rfl),rfl⟩
 cases k6:((s.extract 0 1).toList==[93])
 rotate_left
 ·have HR:Hid (EA s.data.toList=1):=SA HT.out (by rw[←qC];exact k6) (by decide)
  clear HT
  go_enter Tryz.func77,Tryz.ntmps77
  go_wp2
  go_ret
  exact⟨GB (by rw[HO.out,HR.out];rfl),rfl⟩
 cases k7:((s.extract 0 1).toList==[60])
 rotate_left
 ·have HR:Hid (EA s.data.toList=1):=SA HT.out (by rw[←qC];exact k7) (by decide)
  clear HT
  go_enter Tryz.func77,Tryz.ntmps77
  go_wp2
  go_ret
  exact⟨GB (by rw[HO.out,HR.out];rfl),rfl⟩
 cases k8:((s.extract 0 1).toList==[61])
 rotate_left
 ·have HR:Hid (EA s.data.toList=1):=SA HT.out (by rw[←qC];exact k8) (by decide)
  clear HT
  go_enter Tryz.func77,Tryz.ntmps77
  go_wp2
  go_ret
  exact⟨GB (by rw[HO.out,HR.out];rfl),rfl⟩
 cases k9:((s.extract 0 1).toList==[62])
 rotate_left
 ·have HR:Hid (EA s.data.toList=1):=SA HT.out (by rw[←qC];exact k9) (by decide)
  clear HT
  go_enter Tryz.func77,Tryz.ntmps77
  go_wp2
  go_ret
  exact⟨GB (by rw[HO.out,HR.out];rfl),rfl⟩
 cases k10:((s.extract 0 1).toList==[43])
 rotate_left
 ·have HR:Hid (EA s.data.toList=1):=SA HT.out (by rw[←qC];exact k10) (by decide)
  clear HT
  go_enter Tryz.func77,Tryz.ntmps77
  go_wp2
  go_ret
  exact⟨GB (by rw[HO.out,HR.out];rfl),rfl⟩
 cases k11:((s.extract 0 1).toList==[45])
 rotate_left
 ·have HR:Hid (EA s.data.toList=1):=SA HT.out (by rw[←qC];exact k11) (by decide)
  clear HT
  go_enter Tryz.func77,Tryz.ntmps77
  go_wp2
  go_ret
  exact⟨GB (by rw[HO.out,HR.out];rfl),rfl⟩
 cases k12:((s.extract 0 1).toList==[42])
 rotate_left
 ·have HR:Hid (EA s.data.toList=1):=SA HT.out (by rw[←qC];exact k12) (by decide)
  clear HT
  go_enter Tryz.func77,Tryz.ntmps77
  go_wp2
  go_ret
  exact⟨GB (by rw[HO.out,HR.out];rfl),rfl⟩
 cases k13:((s.extract 0 1).toList==[37])
 rotate_left
 ·have HR:Hid (EA s.data.toList=1):=SA HT.out (by rw[←qC];exact k13) (by decide)
  clear HT
  go_enter Tryz.func77,Tryz.ntmps77
  go_wp2
  go_ret
  exact⟨GB (by rw[HO.out,HR.out];rfl),rfl⟩
 have HR:Hid (EA s.data.toList=0):=SJ HT.out (by
  intro a ha
  rw[←qC]
  simp only[signsL,List.mem_cons,List.not_mem_nil,or_false] at ha
  rcases ha with rfl|rfl|rfl|rfl|rfl|rfl|rfl|rfl|rfl|rfl|rfl|rfl|rfl|rfl
  ·exact k0
  ·exact k1
  ·exact k3
  ·exact k4
  ·exact k7
  ·exact k8
  ·exact k9
  ·exact k10
  ·exact k11
  ·exact k12
  ·exact k13
  ·exact k2
  ·exact k5
  ·exact k6)
 clear HT
 go_enter Tryz.func77,Tryz.ntmps77
 go_wp2
 go_ret
 exact⟨GB (by rw[HO.out,HR.out];rfl),rfl⟩
theorem EK(s:ByteArray)(h1:s.size=1)(w:World):
 Calls Tryz.prog 77 #[.string s] w fun e w'=>e=.returned (.int .i64 (EA s.data.toList))∧w'=w:=by
 obtain⟨O,hO⟩:∃O,O=EA s.data.toList:=⟨_,rfl⟩
 rw[←hO]
 have HO:=aA hO
 clear hO
 have hz:¬(1:Int)<s.size:=by omega
 have h11:1≤s.size:=by omega
 have HT:Hid (cG s.data.toList=false):=by
  show _=_
  have hl:=xA s
  match e:s.data.toList with
  | []=>rfl
  | [x]=>rfl
  |x::y::r=>rw[e] at hl;simp at hl;omega
 clear h1
 cases k0:((s.extract 0 1).toList==[58])
 rotate_left
 ·have HR:Hid (EA s.data.toList=1):=SA HT.out (by rw[←qC];exact k0) (by decide)
  clear HT
  go_enter Tryz.func77,Tryz.ntmps77
  go_wp2
  go_ret
  exact⟨GB (by rw[HO.out,HR.out];rfl),rfl⟩
 cases k1:((s.extract 0 1).toList==[44])
 rotate_left
 ·have HR:Hid (EA s.data.toList=1):=SA HT.out (by rw[←qC];exact k1) (by decide)
  clear HT
  go_enter Tryz.func77,Tryz.ntmps77
  go_wp2
  go_ret
  exact⟨GB (by rw[HO.out,HR.out];rfl),rfl⟩
 cases k2:((s.extract 0 1).toList==[59])
 rotate_left
 ·have HR:Hid (EA s.data.toList=1):=SA HT.out (by rw[←qC];exact k2) (by decide)
  clear HT
  go_enter Tryz.func77,Tryz.ntmps77
  go_wp2
  go_ret
  exact⟨GB (by rw[HO.out,HR.out];rfl),rfl⟩
 cases k3:((s.extract 0 1).toList==[40])
 rotate_left
 ·have HR:Hid (EA s.data.toList=1):=SA HT.out (by rw[←qC];exact k3) (by decide)
  clear HT
  go_enter Tryz.func77,Tryz.ntmps77
  go_wp2
  go_ret
  exact⟨GB (by rw[HO.out,HR.out];rfl),rfl⟩
 cases k4:((s.extract 0 1).toList==[41])
 rotate_left
 ·have HR:Hid (EA s.data.toList=1):=SA HT.out (by rw[←qC];exact k4) (by decide)
  clear HT
  go_enter Tryz.func77,Tryz.ntmps77
  go_wp2
  go_ret
  exact⟨GB (by rw[HO.out,HR.out];rfl),rfl⟩
 cases k5:((s.extract 0 1).toList==[91])
 rotate_left
 ·have HR:Hid (EA s.data.toList=1):=SA HT.out (by rw[←qC];exact k5) (by decide)
  clear HT
  go_enter Tryz.func77,Tryz.ntmps77
  go_wp2
  go_ret
  exact⟨GB (by rw[HO.out,HR.out];rfl),rfl⟩
 cases k6:((s.extract 0 1).toList==[93])
 rotate_left
 ·have HR:Hid (EA s.data.toList=1):=SA HT.out (by rw[←qC];exact k6) (by decide)
  clear HT
  go_enter Tryz.func77,Tryz.ntmps77
  go_wp2
  go_ret
  exact⟨GB (by rw[HO.out,HR.out];rfl),rfl⟩
 cases k7:((s.extract 0 1).toList==[60])
 rotate_left
 ·have HR:Hid (EA s.data.toList=1):=SA HT.out (by rw[←qC];exact k7) (by decide)
  clear HT
  go_enter Tryz.func77,Tryz.ntmps77
  go_wp2
  go_ret
  exact⟨GB (by rw[HO.out,HR.out];rfl),rfl⟩
 cases k8:((s.extract 0 1).toList==[61])
 rotate_left
 ·have HR:Hid (EA s.data.toList=1):=SA HT.out (by rw[←qC];exact k8) (by decide)
  clear HT
  go_enter Tryz.func77,Tryz.ntmps77
  go_wp2
  go_ret
  exact⟨GB (by rw[HO.out,HR.out];rfl),rfl⟩
 cases k9:((s.extract 0 1).toList==[62])
 rotate_left
 ·have HR:Hid (EA s.data.toList=1):=SA HT.out (by rw[←qC];exact k9) (by decide)
  clear HT
  go_enter Tryz.func77,Tryz.ntmps77
  go_wp2
  go_ret
  exact⟨GB (by rw[HO.out,HR.out];rfl),rfl⟩
 cases k10:((s.extract 0 1).toList==[43])
 rotate_left
 ·have HR:Hid (EA s.data.toList=1):=SA HT.out (by rw[←qC];exact k10) (by decide)
  clear HT
  go_enter Tryz.func77,Tryz.ntmps77
  go_wp2
  go_ret
  exact⟨GB (by rw[HO.out,HR.out];rfl),rfl⟩
 cases k11:((s.extract 0 1).toList==[45])
 rotate_left
 ·have HR:Hid (EA s.data.toList=1):=SA HT.out (by rw[←qC];exact k11) (by decide)
  clear HT
  go_enter Tryz.func77,Tryz.ntmps77
  go_wp2
  go_ret
  exact⟨GB (by rw[HO.out,HR.out];rfl),rfl⟩
 cases k12:((s.extract 0 1).toList==[42])
 rotate_left
 ·have HR:Hid (EA s.data.toList=1):=SA HT.out (by rw[←qC];exact k12) (by decide)
  clear HT
  go_enter Tryz.func77,Tryz.ntmps77
  go_wp2
  go_ret
  exact⟨GB (by rw[HO.out,HR.out];rfl),rfl⟩
 cases k13:((s.extract 0 1).toList==[37])
 rotate_left
 ·have HR:Hid (EA s.data.toList=1):=SA HT.out (by rw[←qC];exact k13) (by decide)
  clear HT
  go_enter Tryz.func77,Tryz.ntmps77
  go_wp2
  go_ret
  exact⟨GB (by rw[HO.out,HR.out];rfl),rfl⟩
 have HR:Hid (EA s.data.toList=0):=SJ HT.out (by
  intro a ha
  rw[←qC]
  simp only[signsL,List.mem_cons,List.not_mem_nil,or_false] at ha
  rcases ha with rfl|rfl|rfl|rfl|rfl|rfl|rfl|rfl|rfl|rfl|rfl|rfl|rfl|rfl
  ·exact k0
  ·exact k1
  ·exact k3
  ·exact k4
  ·exact k7
  ·exact k8
  ·exact k9
  ·exact k10
  ·exact k11
  ·exact k12
  ·exact k13
  ·exact k2
  ·exact k5
  ·exact k6)
 clear HT
 go_enter Tryz.func77,Tryz.ntmps77
 go_wp2
 go_ret
 exact⟨GB (by rw[HO.out,HR.out];rfl),rfl⟩
theorem ZM(s:ByteArray)(hs:s.size≤100000)(h1:1≤s.size)(w:World):
 Calls Tryz.prog 77 #[.string s] w fun e w'=>e=.returned (.int .i64 (EA s.data.toList))∧w'=w:=by
 rcases Nat.lt_or_ge 1 s.size with h|h
 ·exact FK s hs h w
 ·exact EK s (by omega) w
theorem aM(s:ByteArray)(j n:Nat):(⟨((s.data.toList.drop j).take n).toArray⟩:ByteArray)=s.extract j (j+n):=by
 apply ByteArray.ext
 rw[ByteArray.data_extract]
 apply Array.ext'
 rw[Array.toList_extract,List.extract_eq_take_drop]
 simp
def TkIs(s:ByteArray)(j:Nat)(h:j<s.size)(k:TK)(c z:Nat):Prop:=bG s j h=⟨k,s.extract j z,j,c⟩∧j+(OB s[j] (s.data.toList.drop (j+1))).2.2=z
theorem LK{s:ByteArray}{j:Nat}{h:j<s.size}{k:TK}{c n:Nat}(e:OB s[j] (s.data.toList.drop (j+1))=(k,c,n)):TkIs s j h k c (j+n):=by
 refine⟨?_,by rw[e]⟩
 unfold bG
 rw[e,←aM]
theorem kO{s:ByteArray}{j:Nat}(h:j<s.size)(h1:PB s[j]=true)(h2:¬24<1+BA JA s (j+1)):TkIs s j h .w 0 (j+(1+BA JA s (j+1))):=by
 apply LK
 unfold OB
 rw[if_pos h1]
 exact if_neg h2
theorem cM{s:ByteArray}{j:Nat}(h:j<s.size)(h1:PB s[j]=true)(h2:24<1+BA JA s (j+1)):TkIs s j h .b 2 (j+(1+BA JA s (j+1))):=by
 apply LK
 unfold OB
 rw[if_pos h1]
 exact if_pos h2
theorem JI{c:UInt8}(h:lA c=true):¬PB c=true:=by
 unfold lA at h
 unfold PB
 simp only[Bool.and_eq_true,decide_eq_true_eq] at h ⊢
 omega
theorem JH(s:ByteArray)(j:Nat):(s.data.toList.drop (j+1)).drop (1+BA lA s (j+1) - 1)=s.data.toList.drop (j+1+BA lA s (j+1)):=by
 rw[List.drop_drop]
 congr 1
 omega
theorem rJ{s:ByteArray}{j:Nat}(h:j<s.size)(h1:lA s[j]=true)(h2:¬12<1+BA lA s (j+1))(h3:¬AB (s.data.toList.drop (j+1+BA lA s (j+1)))=true):TkIs s j h .n 0 (j+(1+BA lA s (j+1))):=by
 apply LK
 unfold OB
 rw[if_neg (JI h1),if_pos h1]
 rw[←JH] at h3
 show (if 12<1+BA lA s (j+1) then _ else _)=_
 rw[if_neg h2]
 show (TK.n,0,(if AB ((s.data.toList.drop (j+1)).drop (1+BA lA s (j+1) - 1))=true then _ else _))=_
 rw[if_neg h3]
 rfl
theorem iO{s:ByteArray}{j:Nat}(h:j<s.size)(h1:lA s[j]=true)(h2:12<1+BA lA s (j+1))(h3:¬AB (s.data.toList.drop (j+1+BA lA s (j+1)))=true):TkIs s j h .b 2 (j+(1+BA lA s (j+1))):=by
 apply LK
 unfold OB
 rw[if_neg (JI h1),if_pos h1]
 rw[←JH] at h3
 show (if 12<1+BA lA s (j+1) then _ else _)=_
 rw[if_pos h2]
 show (TK.b,2,(if AB ((s.data.toList.drop (j+1)).drop (1+BA lA s (j+1) - 1))=true then _ else _))=_
 rw[if_neg h3]
 rfl
theorem pT{s:ByteArray}{j:Nat}(h:j<s.size)(h1:lA s[j]=true)(h2:¬12<1+BA lA s (j+1))(h3:AB (s.data.toList.drop (j+1+BA lA s (j+1)))=true):TkIs s j h .n 0 (j+(1+BA lA s (j+1)+3)):=by
 apply LK
 unfold OB
 rw[if_neg (JI h1),if_pos h1]
 rw[←JH] at h3
 show (if 12<1+BA lA s (j+1) then _ else _)=_
 rw[if_neg h2]
 show (TK.n,0,(if AB ((s.data.toList.drop (j+1)).drop (1+BA lA s (j+1) - 1))=true then _ else _))=_
 rw[if_pos h3]
 rfl
theorem bM{s:ByteArray}{j:Nat}(h:j<s.size)(h1:lA s[j]=true)(h2:12<1+BA lA s (j+1))(h3:AB (s.data.toList.drop (j+1+BA lA s (j+1)))=true):TkIs s j h .b 2 (j+(1+BA lA s (j+1)+3)):=by
 apply LK
 unfold OB
 rw[if_neg (JI h1),if_pos h1]
 rw[←JH] at h3
 show (if 12<1+BA lA s (j+1) then _ else _)=_
 rw[if_pos h2]
 show (TK.b,2,(if AB ((s.data.toList.drop (j+1)).drop (1+BA lA s (j+1) - 1))=true then _ else _))=_
 rw[if_pos h3]
 rfl
theorem dN{s:ByteArray}{j:Nat}(h:j<s.size)(h1:¬PB s[j]=true)(h2:¬lA s[j]=true)(h3:cG (s.data.toList.drop j)=true):TkIs s j h .s 0 (j+2):=by
 apply LK
 unfold OB
 rw[NA s j h] at h3
 rw[if_neg h1,if_neg h2,if_pos h3]
theorem jO{s:ByteArray}{j:Nat}(h:j<s.size)(h1:¬PB s[j]=true)(h2:¬lA s[j]=true)(h3:¬cG (s.data.toList.drop j)=true)(h4:signsL.contains s[j]=true):TkIs s j h .s 0 (j+1):=by
 apply LK
 unfold OB
 rw[NA s j h] at h3
 rw[if_neg h1,if_neg h2,if_neg h3,if_pos h4]
theorem MR{s:ByteArray}{j:Nat}(h:j<s.size)(h1:¬PB s[j]=true)(h2:¬lA s[j]=true)(h3:¬cG (s.data.toList.drop j)=true)(h4:¬signsL.contains s[j]=true):TkIs s j h .b 1 (j+1):=by
 apply LK
 unfold OB
 rw[NA s j h] at h3
 rw[if_neg h1,if_neg h2,if_neg h3,if_neg h4]
theorem TokInv.nextIs{s:ByteArray}{p i k:Nat}{ts:List Tok}{kd:TK}{c z:Nat}(h:TokInv s p ts i)(hk:k=i+BA RE s i)(hj:k<s.size)(ht:TkIs s k hj kd c z):TokInv s p (ts++[⟨kd,s.extract k z,k,c⟩]) z:=by
 subst hk
 have h1:=h.next hj
 rw[ht.1,ht.2] at h1
 exact h1
def signW:List ByteArray:=signsL.map fun c=>⟨#[c]⟩
theorem uO(s:ByteArray)(j n:Nat):(s.extract j (j+n)).toList=(s.data.toList.drop j).take n:=by
 rw[←aM,Lib.toList_data]
theorem JN(s:ByteArray)(j:Nat)(h:j<s.size):(s.extract j (j+1)).toList=[s[j]]:=by
 rw[uO,NA s j h];rfl
theorem CS(s:ByteArray)(j:Nat)(h:j+1<s.size):(s.extract j (j+2)).toList=[s[j],s[j+1]]:=by
 rw[uO,NA s j (by omega),NA s (j+1) h];rfl
theorem DV(s:ByteArray)(j:Nat)(h:j+1<s.size):cG (s.data.toList.drop j)=(((s.extract j (j+2)).toList==[60,61])||((s.extract j (j+2)).toList==[60,62])||((s.extract j (j+2)).toList==[62,61])):=by
 rw[CS s j h,NA s j (by omega),NA s (j+1) h,cG]
 rw[Bool.eq_iff_iff]
 simp[or_assoc]
theorem AT(s:ByteArray)(j:Nat)(h:j<s.size)(h1:¬j+1<s.size):cG (s.data.toList.drop j)=false:=by
 rw[NA s j h,List.drop_of_length_le (by rw[xA];omega)]
 rfl
theorem eO(s:ByteArray)(j:Nat)(h:j<s.size):aD signW (s.extract j (j+1))<0↔¬signsL.contains s[j]=true:=by
 rw[plcI_neg]
 unfold iA
 rw[List.findIdx?_eq_none_iff]
 constructor
 ·intro h1 h2
  have h3:=h1 ⟨#[s[j]]⟩ (List.mem_map.2 ⟨s[j],by simpa using h2,rfl⟩)
  unfold vA at h3
  rw[JN s j h,Lib.toList_data] at h3
  simp at h3
 ·intro h1 x hx
  obtain⟨c,hc,rfl⟩:=List.mem_map.1 hx
  unfold vA
  rw[JN s j h,Lib.toList_data]
  simp only[beq_eq_false_iff_ne,ne_eq,List.cons.injEq,and_true]
  intro e
  subst e
  exact h1 (by simpa using hc)
end Go.Proofs.YtehbinobohjadaaGreatDoor

import Derived.Test.YtpbolcjcmkmalaaGreatDoorAq00
import Derived.KernelRfl
import Derived.Shelf.GgClosure.StringsTrimFunc
import Derived.Laws.RangeAny
import Derived.Laws.RangeString
import Derived.Lib.TrimUEq
import Derived.Lib.TrimAscii
import Derived.Lib.Bytealg
import Derived.Lib.Small
import Derived.Test.YtpbolcjcmkmalaaGreatDoorShelfL
import Derived.OwnWalk
import Derived.Below
import Derived.Deep.QuietTactic
import Derived.BigQuiet
import Derived.BigRegion
import Derived.Deep.RegionWith
import Derived.Test.YtpbolcjcmkmalaaGreatDoorShelfC
import Derived.Test.YtpbolcjcmkmalaaGreatDoorShelfT
import Derived.Lib.Strings
import Derived.Laws.Cover1
import Derived.WalkKit
import Derived.Test.YtpbolcjcmkmalaaGreatDoorProg
import Derived.Laws.OwnMore
import Derived.OneCell
import Derived.Deep.RegionLaw
import Derived.Deep.DeepCutAuto
import Derived.Laws.IdiomCopy
import Derived.Lib.Overlaps
import Derived.Lib.AppendZerosOnto
import Derived.Lib.SliceRun
import Derived.Deep.OwnRows
set_option maxHeartbeats 20000000
set_option maxRecDepth 20000
namespace Go.Proofs.YtpbolcjcmkmalaaGreatDoor
abbrev bl(s:ByteArray):List UInt8:=s.data.toList
theorem oA(s:ByteArray):(bl s).length=s.size:=by simp[bl]
theorem WC(s:ByteArray)(k:Nat)(h:k<s.size):(bl s)[k]?=some s[k]:=by
 rw[List.getElem?_eq_getElem (by rw[oA];exact h)];rfl
def sV(s:ByteArray)(j:Nat):Int:=if h:j<s.size then ((s[j]'h).toNat:Int) - 48 else 0
end Go.Proofs.YtpbolcjcmkmalaaGreatDoor
namespace Go.Proofs.YtpbolcjcmkmalaaGreatDoor
open Go.Lib
def AllP(p:Nat→Bool)(s:ByteArray)(a b:Nat):Prop:=∀(i:Nat) (h:i<s.size),a≤i→i<b→p s[i].toNat=true
theorem AllP.cons{p:Nat→Bool}{s:ByteArray}{a b:Nat}(h:a<s.size)(h0:p s[a].toNat=true)(h1:AllP p s (a+1) b):AllP p s a b:=fun i hi ha hb=>by
 rcases Nat.lt_or_ge a i with k|k
 ·exact h1 i hi k hb
 ·obtain rfl:i=a:=by omega
  exact h0
theorem AllP.snoc{p:Nat→Bool}{s:ByteArray}{a b:Nat}(h:b<s.size)(h0:p s[b].toNat=true)(h1:AllP p s a b):AllP p s a (b+1):=fun i hi ha hb=>by
 rcases Nat.lt_or_ge i b with k|k
 ·exact h1 i hi ha k
 ·obtain rfl:i=b:=by omega
  exact h0
section
variable {p:Nat→Bool}
theorem DH(hp:∀x,128≤x→p x=false)(s:ByteArray):∀(f pos:Nat),s.size - pos≤f→idxFuncFrom p false s f pos=-1→AllP p s pos s.size
 |0,pos,hf,_=>fun i hi ha hb=>by omega
 |f+1,pos,hf,h=>by
  unfold idxFuncFrom at h
  by_cases hs:pos<s.size
  ·rw[if_pos hs] at h
   by_cases hd:p (Utf8.decode s pos).1=false
   ·rw[if_pos hd] at h;omega
   ·rw[if_neg hd] at h
    rcases Nat.lt_or_ge s[pos].toNat 128 with c|c
    ·have e:=decode_ascii s pos hs c
     rw[e] at h hd
     exact .cons hs (by simpa using hd) (DH hp s f (pos+1) (by omega) h)
    ·exact absurd (hp _ (decode_high s pos hs c).1) hd
  ·exact fun i hi ha hb=>by omega
theorem sJ(hp:∀x,128≤x→p x=false)(s:ByteArray):∀(f pos:Nat),AllP p s pos s.size→idxFuncFrom p false s f pos=-1
 |0,pos,_=>rfl
 |f+1,pos,h=>by
  unfold idxFuncFrom
  by_cases hs:pos<s.size
  ·have h0:=h pos hs (nR _) hs
   rcases Nat.lt_or_ge s[pos].toNat 128 with c|c
   ·have e:=decode_ascii s pos hs c
    rw[if_pos hs,e,if_neg (by simp[h0])]
    exact sJ hp s f (pos+1) (fun i hi ha hb=>h i hi (by omega) hb)
   ·rw[hp _ c] at h0;cases h0
  ·rw[if_neg hs]
theorem EH(hp:∀x,128≤x→p x=false)(s:ByteArray):∀(f pos:Nat) (k:Int),idxFuncFrom p false s f pos=k→k≠-1→∃(j:Nat) (h:j<s.size),k=j∧p s[j].toNat=false
 |0,pos,k,h,hk=>by simp[idxFuncFrom] at h;omega
 |f+1,pos,k,h,hk=>by
  unfold idxFuncFrom at h
  by_cases hs:pos<s.size
  ·rw[if_pos hs] at h
   by_cases hd:p (Utf8.decode s pos).1=false
   ·rw[if_pos hd] at h
    refine⟨pos,hs,h.symm,?_⟩
    rcases Nat.lt_or_ge s[pos].toNat 128 with c|c
    ·rw[decode_ascii s pos hs c] at hd;exact hd
    ·exact hp _ c
   ·rw[if_neg hd] at h
    exact EH hp s f _ k h hk
  ·rw[if_neg hs] at h;omega
theorem hJ(s:ByteArray)(i j:Nat)(hi:i≤s.size)(hj:j<i):(s.data.toList.take i).getD j 0=s[j]:=by
 have:(s.data.toList.take i)[j]?=some s[j]:=by
  rw[List.getElem?_take,if_pos hj];exact WC s j (by omega)
 simp[List.getD,this]
theorem lL(s:ByteArray)(i:Nat)(hi:i≤s.size):(s.data.toList.take i).length=i:=by
 rw[List.length_take];have:=oA s;unfold bl at this;omega
theorem QH(s:ByteArray)(i:Nat)(h0:0<i)(hi:i≤s.size)(ha:s[i - 1].toNat<128):decodeLastL (s.data.toList.take i)=(s[i - 1].toNat,1):=by
 have hl:=lL s i hi
 have hne:s.data.toList.take i≠[]:=fun h=>by rw[h] at hl;simp at hl;omega
 unfold decodeLastL
 rw[if_neg hne,hl,hJ s i (i - 1) hi (by omega),if_pos ha]
theorem PI(s:ByteArray)(i:Nat)(h0:0<i)(hi:i≤s.size)(ha:128≤s[i - 1].toNat):
 ∃d:Nat×Nat,decodeLastL (s.data.toList.take i)=d∧128≤d.1∧1≤d.2∧∃(j:Nat) (h:j<s.size),j=i - d.2∧j<i∧128≤s[j].toNat:=by
 have hl:=lL s i hi
 have hne:s.data.toList.take i≠[]:=fun h=>by rw[h] at hl;simp at hl;omega
 have e:decodeLastL (s.data.toList.take i)=if lastStart (s.data.toList.take i)+(decodeL ((s.data.toList.take i).drop (lastStart (s.data.toList.take i)))).2=i then decodeL ((s.data.toList.take i).drop (lastStart (s.data.toList.take i))) else (Utf8.runeError,1):=by
  unfold decodeLastL
  rw[if_neg hne,hl,hJ s i (i - 1) hi (by omega),if_neg (by omega)]
 by_cases hc:lastStart (s.data.toList.take i)+(decodeL ((s.data.toList.take i).drop (lastStart (s.data.toList.take i)))).2=i
 ·rw[if_pos hc] at e
  refine⟨_,e,?_⟩
  generalize lastStart (s.data.toList.take i)=st at *
  have hw:=decodeL_width ((s.data.toList.take i).drop st)
  have hst:st<i:=by omega
  have hst':st<s.size:=by omega
  obtain⟨c,t,hct⟩:∃c t,(s.data.toList.take i).drop st=c::t:=by
   cases h:(s.data.toList.take i).drop st with
   |nil=>have:=congrArg List.length h;rw[List.length_drop,hl] at this;simp at this;omega
   |cons c t=>exact⟨c,t,rfl⟩
  have hcs:c=s[st]:=by
   have h1:((s.data.toList.take i).drop st)[0]?=some c:=by rw[hct];rfl
   rw[List.getElem?_drop,List.getElem?_take,if_pos (by omega)] at h1
   have h2:=WC s st hst'
   unfold bl at h2
   rw[Nat.add_zero,h2] at h1
   exact(Option.some.inj h1).symm
  have hc128:128≤c.toNat:=by
   rcases Nat.lt_or_ge c.toNat 128 with k|k
   ·rw[hct,decodeL_ascii c t k] at hc
    have hc':st+1=i:=hc
    have e:∀(k:Nat) (hk:k<s.size),k=st→s[k]=c:=fun k hk h=>by subst h;exact hcs.symm
    rw[e (i - 1) (by omega) (by omega)] at ha
    omega
   ·exact k
  have hh:128≤(decodeL ((s.data.toList.take i).drop st)).1:=by
   rw[hct]
   exact(decode_high ⟨(c::t).toArray⟩ 0 (by simp[ByteArray.size]) hc128).1
  exact⟨hh,hw,st,hst',by omega,hst,by rw[←hcs];exact hc128⟩
 ·rw[if_neg hc] at e
  exact⟨_,e,by decide,nR _,i - 1,by omega,rfl,by omega,ha⟩
theorem QI(hp:∀x,128≤x→p x=false)(s:ByteArray):∀(f i:Nat),i≤f→i≤s.size→lastIdxFuncFrom p false s f i=-1→AllP p s 0 i
 |0,i,hf,_,_=>fun j hj ha hb=>by omega
 |f+1,0,_,_,_=>fun j hj ha hb=>by omega
 |f+1,i+1,hf,hi,h=>by
  unfold lastIdxFuncFrom at h
  rw[if_pos (by omega)] at h
  have hs:i<s.size:=by omega
  rcases Nat.lt_or_ge s[i].toNat 128 with c|c
  ·rw[QH s (i+1) (by omega) hi c] at h
   by_cases hd:p s[i].toNat=false
   ·rw[if_pos (by exact hd)] at h;omega
   ·rw[if_neg (by exact hd)] at h
    exact .snoc hs (by simpa using hd) (QI hp s f i (by omega) (by omega) h)
  ·obtain⟨d,e,h1,_⟩:=PI s (i+1) (by omega) hi c
   rw[e,if_pos (hp _ h1)] at h
   omega
theorem RI(hp:∀x,128≤x→p x=false)(s:ByteArray):∀(f i:Nat) (k:Int),i≤f→i≤s.size→lastIdxFuncFrom p false s f i=k→k≠-1→
 ∃j:Nat,k=j∧∃h:j<s.size,((s[j].toNat<128∧p s[j].toNat=false∧AllP p s (j+1) i∧j<i)∨128≤s[j].toNat)
 |0,i,k,hf,_,h,hk=>by simp[lastIdxFuncFrom] at h;omega
 |f+1,0,k,_,_,h,hk=>by simp[lastIdxFuncFrom] at h;omega
 |f+1,i+1,k,hf,hi,h,hk=>by
  unfold lastIdxFuncFrom at h
  rw[if_pos (by omega)] at h
  have hs:i<s.size:=by omega
  rcases Nat.lt_or_ge s[i].toNat 128 with c|c
  ·rw[QH s (i+1) (by omega) hi c] at h
   by_cases hd:p s[i].toNat=false
   ·rw[if_pos (by exact hd)] at h
    exact⟨i,by rw[←h];rfl,hs,.inl ⟨c,hd,fun j hj ha hb=>by omega,by omega⟩⟩
   ·rw[if_neg (by exact hd)] at h
    obtain⟨j,hj,hjs,hc⟩:=RI hp s f i k (by omega) (by omega) h hk
    refine⟨j,hj,hjs,?_⟩
    rcases hc with ⟨c1,c2,c3,c4⟩|c1
    ·exact .inl ⟨c1,c2,.snoc hs (by simpa using hd) c3,by omega⟩
    ·exact .inr c1
  ·obtain⟨d,e,h1,h2,j,hj,ej,_,h4⟩:=PI s (i+1) (by omega) hi c
   rw[e,if_pos (hp _ h1),←ej] at h
   exact⟨j,h.symm,hj,.inr h4⟩
theorem QG(hp:∀x,128≤x→p x=false)(s:ByteArray):
 (AllP p s 0 s.size∧trimRightF p s=s.extract 0 0)∨
 (∃(e:Nat) (h:e<s.size),trimRightF p s=s.extract 0 (e+1)∧s[e].toNat<128∧p s[e].toNat=false∧AllP p s (e+1) s.size)∨
 (∃(j E:Nat) (h:j<s.size),trimRightF p s=s.extract 0 E∧j<E∧128≤s[j].toNat):=by
 by_cases hl:lastIdxFunc p false s=-1
 ·refine .inl ⟨QI hp s s.size s.size (nR _) (nR _) hl,?_⟩
  unfold trimRightF rightEndF
  rw[hl,if_neg (by omega)]
 ·obtain⟨j,hj,hjs,hc⟩:=RI hp s s.size s.size _ (nR _) (nR _) rfl hl
  have hj':lastIdxFunc p false s=j:=hj
  have hsz:(s.extract j s.size).size=s.size - j:=by simp[ByteArray.size_extract]
  have hdec:decodeGoB (s.extract j s.size)=Utf8.decode (s.extract j s.size) 0:=by unfold decodeGoB;rw[if_neg (by omega)]
  have h0:(s.extract j s.size)[0]'(by omega)=s[j]:=by simp[ByteArray.getElem_extract]
  have hE:trimRightF p s=s.extract 0 (j+(decodeGoB (s.extract j s.size)).2):=by
   unfold trimRightF rightEndF
   rw[hj',if_pos (by omega)]
   rfl
  rcases hc with ⟨c1,c2,c3,_⟩|c1
  ·refine .inr (.inl ⟨j,hjs,?_,c1,c2,c3⟩)
   rw[hE,hdec,decode_ascii _ 0 (by omega) (by rw[h0];exact c1)]
  ·refine .inr (.inr ⟨j,_,hjs,hE,?_,c1⟩)
   have:=(decode_high (s.extract j s.size) 0 (by omega) (by rw[h0];exact c1)).2
   rw[hdec]
   omega
theorem mL(hp:∀x,128≤x→p x=false)(s:ByteArray)(h:AllP p s 0 s.size):trimF p s=⟨#[]⟩:=by
 unfold trimF trimLeftF idxFunc
 rw[if_pos (sJ hp s s.size 0 h)]
 rfl
theorem nL(hp:∀x,128≤x→p x=false)(s:ByteArray)(h:¬AllP p s 0 s.size):(trimF p s).size≠0:=by
 have hi:idxFunc p false s≠-1:=fun e=>h (DH hp s s.size 0 (by omega) e)
 obtain⟨j,hjs,hj,hpj⟩:=EH hp s s.size 0 _ rfl hi
 have ht:trimLeftF p s=s.extract j s.size:=by
  unfold trimLeftF
  have hj':idxFunc p false s=j:=hj
  rw[if_neg hi,hj']
  rfl
 have hsz:(s.extract j s.size).size=s.size - j:=by simp[ByteArray.size_extract]
 have h0:(s.extract j s.size)[0]'(by omega)=s[j]:=by simp[ByteArray.getElem_extract]
 unfold trimF
 rw[ht]
 rcases QG hp (s.extract j s.size) with ⟨ha,_⟩|⟨e,he,hr,_⟩|⟨k,E,hk,hr,hkE,_⟩
 ·have:=ha 0 (by omega) (nR _) (by omega)
  rw[h0,hpj] at this
  cases this
 ·rw[hr];simp only[ByteArray.size_extract];omega
 ·rw[hr];simp only[ByteArray.size_extract];omega
end
def IE(x:Nat):Bool:=decide (48≤x)&&decide (x≤57)
def dF(x:Nat):Bool:=decide (97≤x)&&decide (x≤122)
def GG(x:Nat):Bool:=decide (65≤x)&&decide (x≤90)
theorem dgN_iff{x:Nat}:IE x=true↔48≤x∧x≤57:=by unfold IE;simp
theorem smN_iff{x:Nat}:dF x=true↔97≤x∧x≤122:=by unfold dF;simp
theorem cpN_iff{x:Nat}:GG x=true↔65≤x∧x≤90:=by unfold GG;simp
theorem gO:∀x,128≤x→IE x=false:=fun x h=>by
 cases e:IE x
 ·rfl
 ·have:=dgN_iff.1 e
  omega
theorem CP:∀x,128≤x→dF x=false:=fun x h=>by
 cases e:dF x
 ·rfl
 ·have:=smN_iff.1 e
  omega
theorem JR:∀x,128≤x→GG x=false:=fun x h=>by
 cases e:GG x
 ·rfl
 ·have:=cpN_iff.1 e
  omega
structure Lab(s:ByteArray)(k:Nat)(l:Bool):Prop where
 k1:1≤k
 k4:k≤4
 ks:k≤s.size
 kc:s.size≤k+2
 cap:AllP GG s k s.size
 stem:(l=false∧AllP IE s 0 k∧∀h:0<s.size,s[0].toNat≠48)∨(l=true∧AllP dF s 0 k)
theorem Lab.byte{s:ByteArray}{k:Nat}{l:Bool}(h:Lab s k l)(i:Nat)(hi:i<s.size):(i<k∧l=false∧48≤s[i].toNat∧s[i].toNat≤57)∨(i<k∧l=true∧97≤s[i].toNat∧s[i].toNat≤122)∨(k≤i∧65≤s[i].toNat∧s[i].toNat≤90):=by
 rcases Nat.lt_or_ge i k with c|c
 ·rcases h.stem with ⟨e,a,_⟩|⟨e,a⟩
  ·exact .inl ⟨c,e,dgN_iff.1 (a i hi (Nat.zero_le _) c)⟩
  ·exact .inr (.inl ⟨c,e,smN_iff.1 (a i hi (Nat.zero_le _) c)⟩)
 ·exact .inr (.inr ⟨c,cpN_iff.1 (h.cap i hi c hi)⟩)
def vb:List UInt8→Nat
 | []=>0
 |c::t=>c.toNat * 256 ^ t.length+vb t
def vd:List UInt8→Nat
 | []=>0
 |c::t=>(c.toNat - 48) * 10 ^ t.length+vd t
theorem wR:∀l:List UInt8,(∀c∈l,IE c.toNat=true)→vd l<10 ^ l.length
 | [],_=>by simp[vd]
 |c::t,hd=>by
  have h:=wR t (fun x hx=>hd x (List.mem_cons_of_mem _ hx))
  have hc:=dgN_iff.1 (hd c (List.mem_cons_self ..))
  have e:10 ^ (c::t).length=10 * 10 ^ t.length:=by rw[List.length_cons,Nat.pow_succ,Nat.mul_comm]
  rw[e]
  show (c.toNat - 48) * 10 ^ t.length+vd t<_
  have:=Nat.mul_le_mul_right (10 ^ t.length) (show c.toNat - 48≤9 by omega)
  omega
theorem PE(s:ByteArray)(a b:Nat):bl (s.extract a b)=((bl s).take b).drop a:=by
 show (s.extract a b).data.toList=_
 rw[ByteArray.data_extract,List.drop_take]
 simp[bl]
theorem cH(s:ByteArray)(k:Nat):bl (s.extract 0 k)=(bl s).take k:=by rw[PE];rfl
theorem NO{s:ByteArray}{k:Nat}{c:UInt8}(h:c∈(bl s).take k):∃(i:Nat) (hi:i<s.size),i<k∧c=s[i]:=by
 obtain⟨i,hi⟩:=List.mem_iff_getElem?.1 h
 rw[List.getElem?_take] at hi
 by_cases hk:i<k
 ·rw[if_pos hk] at hi
  have hl:=(List.getElem?_eq_some_iff.1 hi).1
  rw[oA] at hl
  rw[WC s i hl] at hi
  exact⟨i,hl,hk,(Option.some.inj hi).symm⟩
 ·rw[if_neg hk] at hi;cases hi
end Go.Proofs.YtpbolcjcmkmalaaGreatDoor
namespace Go.Proofs.YtpbolcjcmkmalaaGreatDoor
open Go.RowKit Go.Extern.Stop Go.Stop Go.Extern
theorem kB{p:Prop}(h:p):Hid p:=h
theorem rC{a b:Bool}(h:a=b):Ending.returned (.bool a)=.returned (.bool b):=by rw[h]
theorem bQ(w:World)(o:Obj):Below w.heap.size w (w.alloc o):=bA _ _
def pI(x:Nat):Bool:=decide (32≤x)&&decide (x≤126)
theorem okN_iff{x:Nat}:pI x=true↔32≤x∧x≤126:=by unfold pI;simp
theorem PL:∀x,128≤x→pI x=false:=fun x h=>by
 cases e:pI x
 ·rfl
 ·have:=okN_iff.1 e
  omega
theorem nK(p:Nat→Bool)(s:ByteArray):∀(f pos:Nat),Lib.idxFuncFrom (fun x=>!p x) true s f pos=Lib.idxFuncFrom p false s f pos
 |0,_=>rfl
 |f+1,pos=>by
  unfold Lib.idxFuncFrom
  simp only[Bool.not_eq_true']
  rw[nK p s f]
noncomputable def plainB (s:ByteArray):Bool:=open Classical in decide (AllP pI s 0 s.size)
theorem wN(s:ByteArray):decide (0≤Lib.idxFunc (fun x=>!pI x) true s)=!plainB s:=by
 have e:Lib.idxFunc (fun x=>!pI x) true s=Lib.idxFunc pI false s:=nK pI s _ _
 rw[e]
 unfold plainB
 by_cases h:AllP pI s 0 s.size
 ·have:=sJ PL s s.size 0 h
  unfold Lib.idxFunc
  rw[this]
  simp[h]
 ·have hn:Lib.idxFunc pI false s≠-1:=fun e=>h (DH PL s s.size 0 (by omega) e)
  obtain⟨j,_,hj,_⟩:=EH PL s s.size 0 _ rfl hn
  have hj':Lib.idxFunc pI false s=j:=hj
  rw[hj']
  simp[h]
theorem yQ(x:Nat):(!pI x)=(decide ((x:Int)<32)||decide ((x:Int) > 126)):=by
 rw[Bool.eq_iff_iff]
 simp only[Bool.not_eq_true',Bool.or_eq_true,decide_eq_true_eq]
 constructor
 ·intro h
  by_cases c:32≤x∧x≤126
  ·rw[okN_iff.2 c] at h;cases h
  ·omega
 ·intro h
  cases e:pI x
  ·rfl
  ·have:=okN_iff.1 e
   omega
theorem uJ(x:Nat)(w:World):Calls Tryz.prog 124 #[.int .i32 x] w fun e w'=>e=.returned (.bool (!pI x))∧w'=w:=by
 rw[yQ]
 cases h1:decide ((x:Int)<32)
 all_goals
  go_enter Tryz.func124,Tryz.ntmps124
  go_wp2
  go_ret
  exact⟨rfl,rfl⟩
theorem mO:∀args w,(callFunc 124 args).run Tryz.prog w=.ok (.enter 124 args) w:=Go.Proofs.enters_of Tryz.func124 (by kernel_rfl) rfl
theorem pK(s:ByteArray)(w:World):Calls Tryz.prog 100 #[.string s] w fun e w'=>e=.returned (.bool (plainB s))∧Below w.heap.size w w':=by
 have HC:=kB (Go.Proofs.Tryz.strings_ContainsFunc 124 #[] mO (fun x=>!pI x) s w (fun W x _=>(uJ x W).mono fun _ _ h=>⟨h.1,0,h.2⟩))
 rw[wN] at HC
 generalize plainB s=b at *
 go_enter Tryz.func100,Tryz.ntmps100
 go_wp2_with fail
 refine HC.out.mono ?_
 rintro e W ⟨rfl,hb⟩
 go_wp2
 go_ret
 exact⟨rC (by simp),hb⟩
theorem jO(p:UInt8→Bool)(l:List UInt8):(l.dropWhile p).length≤l.length:=(List.dropWhile_sublist p).length_le
theorem iO{p:UInt8→Bool}{l:List UInt8}(h:∀b,l.head?=some b→p b=false):l.dropWhile p=l:=by
 cases l with
 |nil=>rfl
 |cons a t=>rw[List.dropWhile_cons_of_neg (by simp[h a rfl])]
theorem fR{p:UInt8→Bool}{l:List UInt8}{b:UInt8}(h:l.head?=some b)(hb:p b=true):(l.dropWhile p).length<l.length:=by
 cases l with
 |nil=>cases h
 |cons a t=>
  have:a=b:=by simpa using h
  subst this
  rw[List.dropWhile_cons_of_pos hb]
  have:=jO p t
  simp
  omega
def Edge(l:List UInt8)(c:UInt8):Prop:=(∀b,l.head?=some b→b≠c)∧(∀b,l.reverse.head?=some b→b≠c)
theorem GP(l:List UInt8)(c:UInt8):Lib.trimB l c=l↔Edge l c:=by
 unfold Lib.trimB Lib.trimLeftB Lib.trimRightB
 constructor
 ·intro h
  have h2:∀b,l.reverse.head?=some b→b≠c:=fun b hb e=>by
   have h1:=fR (p:=(· ==c)) hb (by simp[e])
   have h3:=jO (· ==c) (l.reverse.dropWhile (· ==c)).reverse
   rw[h] at h3
   simp at h1 h3
   omega
  refine⟨fun b hb e=>?_,h2⟩
  rw[iO (l:=l.reverse) (fun b hb=>by simpa using h2 b hb),List.reverse_reverse] at h
  have h1:=fR (p:=(· ==c)) hb (by simp[e])
  rw[h] at h1
  omega
 ·rintro ⟨h1,h2⟩
  rw[iO (l:=l.reverse) (fun b hb=>by simpa using h2 b hb),List.reverse_reverse]
  exact iO (fun b hb=>by simpa using h1 b hb)
noncomputable def edgeB (s:ByteArray):Bool:=open Classical in decide (Edge (bl s) 32)
theorem wE(s:ByteArray):edgeB s=true↔Edge (bl s) 32:=by unfold edgeB;simp
noncomputable def lineB (s:ByteArray):Bool:=decide (s.size≤300)&&plainB s&&edgeB s
theorem VQ(s:ByteArray):((⟨(Lib.trimB s.data.toList 32).toArray⟩:ByteArray).toList==s.toList)=edgeB s:=by
 rw[Bool.eq_iff_iff,beq_iff_eq,wE,Lib.toList_data,Lib.toList_data,←GP]
theorem UE(s:ByteArray)(hs:s.size≤9223372036854775807)(w:World):Calls Tryz.prog 60 #[.string s] w fun e w'=>e=.returned (.bool (lineB s))∧Below w.heap.size w w':=by
 have HP:=kB (pK s w)
 have HT:=kB (fun W=>Go.Proofs.Tryz.strings_Trim_one s 32 (by decide) W hs)
 have HE:=kB (VQ s)
 have HL:Hid (lineB s=(decide (s.size≤300)&&plainB s&&edgeB s)):=rfl
 rw[←HE.out] at HL
 generalize (⟨(Lib.trimB s.data.toList 32).toArray⟩:ByteArray)=t at *
 clear HE
 by_cases h:s.size≤300
 ·have h':(s.size:Int)≤300:=by omega
  rw[show decide (s.size≤300)=true by simpa using h] at HL
  cases hp:plainB s
  ·rw[hp] at HL HP
   have HL2:Hid (lineB s=false):=HL.out
   clear hp
   go_enter Tryz.func60,Tryz.ntmps60
   go_wp2_with fail
   refine HP.out.mono ?_
   rintro e W ⟨rfl,hb⟩
   go_wp2
   go_ret
   exact⟨rC HL2.out.symm,hb⟩
  ·rw[hp] at HL HP
   have HL2:Hid (lineB s=(t.toList==s.toList)):=HL.out
   clear hp
   go_enter Tryz.func60,Tryz.ntmps60
   go_wp2_with fail
   refine HP.out.mono ?_
   rintro e W ⟨rfl,hb⟩
   have HB:=kB hb
   clear hb
   go_wp2_with fail
   refine(HT.out _).mono ?_
   rintro e W2 ⟨rfl,hw⟩
   have HB2:Hid (Below w.heap.size w W2):=by
    show Below _ _ _
    rcases hw with rfl|rfl
    ·exact HB.out
    ·exact HB.out.drew
   clear hw
   go_wp2
   go_ret
   exact⟨rC HL2.out.symm,HB2.out⟩
 ·have h':decide ((s.size:Int)≤300)=false:=by simp;omega
  rw[show decide (s.size≤300)=false by simpa using h] at HL
  have HL2:Hid (lineB s=false):=HL.out
  go_enter Tryz.func60,Tryz.ntmps60
  go_wp2
  go_ret
  exact⟨rC HL2.out.symm,Below.refl _ _⟩
theorem kM(x:Nat):GG x=(decide ((65:Int)≤x)&&decide ((x:Int)≤90)):=by unfold GG;rw[Bool.eq_iff_iff];simp;omega
theorem lM(x:Nat):IE x=(decide ((48:Int)≤x)&&decide ((x:Int)≤57)):=by unfold IE;rw[Bool.eq_iff_iff];simp;omega
theorem CM(x:Nat):dF x=(decide ((97:Int)≤x)&&decide ((x:Int)≤122)):=by unfold dF;rw[Bool.eq_iff_iff];simp;omega
theorem tI(x:Nat)(w:World):Calls Tryz.prog 140 #[.int .i32 x] w fun e w'=>e=.returned (.bool (GG x))∧w'=w:=by
 rw[kM]
 cases h1:decide ((65:Int)≤x)
 all_goals
  go_enter Tryz.func140,Tryz.ntmps140
  go_wp2
  go_ret
  exact⟨rfl,rfl⟩
theorem oK(x:Nat)(w:World):Calls Tryz.prog 142 #[.int .i32 x] w fun e w'=>e=.returned (.bool (IE x))∧w'=w:=by
 rw[lM]
 cases h1:decide ((48:Int)≤x)
 all_goals
  go_enter Tryz.func142,Tryz.ntmps142
  go_wp2
  go_ret
  exact⟨rfl,rfl⟩
theorem qK(x:Nat)(w:World):Calls Tryz.prog 143 #[.int .i32 x] w fun e w'=>e=.returned (.bool (dF x))∧w'=w:=by
 rw[CM]
 cases h1:decide ((97:Int)≤x)
 all_goals
  go_enter Tryz.func143,Tryz.ntmps143
  go_wp2
  go_ret
  exact⟨rfl,rfl⟩
theorem OR:∀args w,(callFunc 140 args).run Tryz.prog w=.ok (.enter 140 args) w:=Go.Proofs.enters_of Tryz.func140 (by kernel_rfl) rfl
theorem PR:∀args w,(callFunc 142 args).run Tryz.prog w=.ok (.enter 142 args) w:=Go.Proofs.enters_of Tryz.func142 (by kernel_rfl) rfl
theorem QR:∀args w,(callFunc 143 args).run Tryz.prog w=.ok (.enter 143 args) w:=Go.Proofs.enters_of Tryz.func143 (by kernel_rfl) rfl
theorem cQ(s:ByteArray)(hs:s.size≤1000000)(w:World)(hT:Lib.Utf8Tabs 13 14 w):
 Calls Tryz.prog 139 #[.string s,.func (.func 140) #[] #[]] w fun e w'=>e=.returned (.string (Lib.trimRightF GG s))∧Below w.heap.size w w':=
 Go.Proofs.Tryz.strings_TrimRightFunc 140 #[] OR GG s w (by omega) hT (fun W x _=>(tI x W).mono fun _ _ h=>⟨h.1,0,h.2⟩)
theorem aM(s:ByteArray)(hs:s.size≤1000000)(w:World)(hT:Lib.Utf8Tabs 13 14 w):
 Calls Tryz.prog 141 #[.string s,.func (.func 142) #[] #[]] w fun e w'=>e=.returned (.string (Lib.trimF IE s))∧Below w.heap.size w w':=
 Go.Proofs.Tryz.strings_TrimFunc 142 #[] PR IE s w (by omega) hT (fun W x _=>(oK x W).mono fun _ _ h=>⟨h.1,0,h.2⟩)
theorem JN(s:ByteArray)(hs:s.size≤1000000)(w:World)(hT:Lib.Utf8Tabs 13 14 w):
 Calls Tryz.prog 141 #[.string s,.func (.func 143) #[] #[]] w fun e w'=>e=.returned (.string (Lib.trimF dF s))∧Below w.heap.size w w':=
 Go.Proofs.Tryz.strings_TrimFunc 143 #[] QR dF s w (by omega) hT (fun W x _=>(qK x W).mono fun _ _ h=>⟨h.1,0,h.2⟩)
theorem xC{w w':World}(h:Lib.Utf8Tabs 13 14 w)(hb:Below w.heap.size w w'):Lib.Utf8Tabs 13 14 w':=by
 have lt:∀{a:Addr} {v:Value},w.cell? a=some v→a.block<w.heap.size:=fun {a v} h=>by
  rcases Nat.lt_or_ge a.block w.heap.size with k|k
  ·exact k
  ·simp[World.cell?,Array.getElem?_eq_none k] at h
 exact⟨fun c hc=>(hb.cell (lt (h.1 c hc))).trans (h.1 c hc),fun i hi=>⟨(hb.cell (lt (h.2 i hi).1)).trans (h.2 i hi).1,(hb.cell (lt (h.2 i hi).2)).trans (h.2 i hi).2⟩⟩
theorem RJ{p:Nat→Bool}{s:ByteArray}{k:Nat}(hk:k≤s.size):AllP p (s.extract 0 k) 0 (s.extract 0 k).size↔AllP p s 0 k:=by
 have hsz:(s.extract 0 k).size=k:=by simp[ByteArray.size_extract];omega
 have hg:∀(i:Nat) (hi:i<(s.extract 0 k).size) (hi':i<s.size),(s.extract 0 k)[i]=s[i]:=fun i hi hi'=>by simp[ByteArray.getElem_extract]
 constructor
 ·intro h i hi _ hik
  have:=h i (by omega) (Nat.zero_le _) (by omega)
  rw[hg i (by omega) hi] at this
  exact this
 ·intro h i hi _ hik
  rw[hg i hi (by omega)]
  exact h i (by omega) (Nat.zero_le _) (by omega)
theorem EP(s:ByteArray):∃k,k≤s.size∧Lib.trimRightF GG s=s.extract 0 k∧((AllP IE s 0 k∨AllP dF s 0 k)→AllP GG s k s.size)∧(∀k' l,Lab s k' l→k'=k):=by
 rcases QG JR s with ⟨ha,hr⟩|⟨e,he,hr,h1,h2,h3⟩|⟨j,E,hj,hr,hjE,h128⟩
 ·refine⟨0,Nat.zero_le _,hr,fun _=>ha,fun k' l h=>?_⟩
  have a:=h.k1
  have b:=h.ks
  have c:=h.byte 0 (by omega)
  have d:=cpN_iff.1 (ha 0 (by omega) (Nat.zero_le _) (by omega))
  omega
 ·refine⟨e+1,by omega,hr,fun _=>h3,fun k' l h=>?_⟩
  have b:=h.ks
  rcases Nat.lt_trichotomy k' (e+1) with c|c|c
  ·have d:=h.byte e he
   have:GG s[e].toNat=true:=cpN_iff.2 (by omega)
   rw[h2] at this
   cases this
  ·exact c
  ·have d:=h.byte (e+1) (by omega)
   have d':=cpN_iff.1 (h3 (e+1) (by omega) (nR _) (by omega))
   omega
 ·refine⟨min E s.size,Nat.min_le_right _ _,?_,fun h=>?_,fun k' l h=>?_⟩
  ·rw[hr]
   rcases Nat.le_total E s.size with c|c
   ·rw[Nat.min_eq_left c]
   ·rw[Nat.min_eq_right c]
    have e:bl (s.extract 0 E)=bl (s.extract 0 s.size):=by
     rw[cH,cH,List.take_of_length_le (by rw[oA];exact c),List.take_of_length_le (by rw[oA];exact nR _)]
    exact ByteArray.ext (Array.toList_inj.1 e)
  ·rcases h with h|h
   ·have:=dgN_iff.1 (h j hj (Nat.zero_le _) (by omega));omega
   ·have:=smN_iff.1 (h j hj (Nat.zero_le _) (by omega));omega
  ·have:=h.byte j hj
   omega
structure LS(w W:World)(b:Nat)(l:Bool)(t c:ByteArray):Prop where
 r0:W.cell? ⟨w.heap.size,0,none⟩=some (.bool false)
 r1:W.cell? ⟨w.heap.size,0+1,none⟩=some (.string ⟨#[]⟩)
 r2:W.cell? ⟨w.heap.size,0+2,none⟩=some (.string ⟨#[]⟩)
 g0:W.frozen? ⟨w.heap.size,0,none⟩=false
 g1:W.frozen? ⟨w.heap.size,0+1,none⟩=false
 g2:W.frozen? ⟨w.heap.size,0+2,none⟩=false
 c0:W.cell? ⟨b,0,none⟩=some (.bool l)
 c1:W.cell? ⟨b,0+1,none⟩=some (.string t)
 c2:W.cell? ⟨b,0+2,none⟩=some (.string c)
 f0:W.frozen? ⟨b,0,none⟩=false
 bel:Below w.heap.size w W
 lt:w.heap.size<b
 lb:b<W.heap.size
theorem uC{B:Nat}{w w':World}(hb:Below B w w'){a:Addr}(h:a.block<B):w'.frozen? a=w.frozen? a:=by
 unfold World.frozen?
 rw[hb.block a.block h]
theorem LS.start{w W:World}(hb:Below (w.alloc (.cells #[.bool false,.string ⟨#[]⟩,.string ⟨#[]⟩] 178)).heap.size (w.alloc (.cells #[.bool false,.string ⟨#[]⟩,.string ⟨#[]⟩] 178)) W)(t c:ByteArray):
 LS w (W.alloc (.cells #[.bool false,.string t,.string c] 178)) W.heap.size false t c:=by
 have hl:w.heap.size<(w.alloc (.cells #[.bool false,.string ⟨#[]⟩,.string ⟨#[]⟩] 178)).heap.size:=by simp
 have hlW:w.heap.size<W.heap.size:=Nat.lt_of_lt_of_le hl hb.size
 have hb2:=hb.trans ((bQ W (.cells #[.bool false,.string t,.string c] 178)).mono hb.size)
 refine⟨?_,?_,?_,?_,?_,?_,by simp,by simp,by simp,by simp,(bQ w _).trans (hb2.mono (bQ w _).size),hlW,by simp⟩
 ·rw[hb2.cell (p:=⟨w.heap.size,0,none⟩) hl];simp
 ·rw[hb2.cell (p:=⟨w.heap.size,0+1,none⟩) hl];simp
 ·rw[hb2.cell (p:=⟨w.heap.size,0+2,none⟩) hl];simp
 ·rw[uC hb2 (a:=⟨w.heap.size,0,none⟩) hl];simp
 ·rw[uC hb2 (a:=⟨w.heap.size,0+1,none⟩) hl];simp
 ·rw[uC hb2 (a:=⟨w.heap.size,0+2,none⟩) hl];simp
theorem LS.on{w W W':World}{b:Nat}{l:Bool}{t c:ByteArray}(h:LS w W b l t c)(hb:Below W.heap.size W W'):LS w W' b l t c:=by
 have l0:w.heap.size<W.heap.size:=Nat.lt_trans h.lt h.lb
 exact⟨(hb.cell (p:=⟨w.heap.size,0,none⟩) l0).trans h.r0,(hb.cell (p:=⟨w.heap.size,0+1,none⟩) l0).trans h.r1,(hb.cell (p:=⟨w.heap.size,0+2,none⟩) l0).trans h.r2,(uC hb (a:=⟨w.heap.size,0,none⟩) l0).trans h.g0,(uC hb (a:=⟨w.heap.size,0+1,none⟩) l0).trans h.g1,(uC hb (a:=⟨w.heap.size,0+2,none⟩) l0).trans h.g2,
  (hb.cell (p:=⟨b,0,none⟩) h.lb).trans h.c0,(hb.cell (p:=⟨b,0+1,none⟩) h.lb).trans h.c1,(hb.cell (p:=⟨b,0+2,none⟩) h.lb).trans h.c2,(uC hb (a:=⟨b,0,none⟩) h.lb).trans h.f0,h.bel.trans (hb.mono h.bel.size),h.lt,Nat.lt_of_lt_of_le h.lb hb.size⟩
theorem LS.setL{w W:World}{b:Nat}{l:Bool}{t c:ByteArray}(h:LS w W b l t c)(l':Bool):LS w (W.setCell ⟨b,0,none⟩ (.bool l')) b l' t c:=by
 have hne:b≠w.heap.size:=by have:=h.lt;omega
 refine⟨?_,?_,?_,by simpa using h.g0,by simpa using h.g1,by simpa using h.g2,World.cell?_setCell_same _ _ _ h.c0,?_,?_,by simpa using h.f0,h.bel.setCell (Nat.le_of_lt h.lt) _,h.lt,by simpa using h.lb⟩
 ·rw[World.cell?_setCell_other _ _ _ _ (by intro e;injection e with e1;exact hne e1)];exact h.r0
 ·rw[World.cell?_setCell_other _ _ _ _ (by intro e;injection e with e1;exact hne e1)];exact h.r1
 ·rw[World.cell?_setCell_other _ _ _ _ (by intro e;injection e with e1;exact hne e1)];exact h.r2
 ·rw[World.cell?_setCell_other _ _ _ _ (by intro e;cases e)];exact h.c1
 ·rw[World.cell?_setCell_other _ _ _ _ (by intro e;cases e)];exact h.c2
theorem xI{w:World}{b:Nat}{u:Value}(h:w.cell? ⟨b,0,none⟩=some u)(x y z:Value):(((w.setCell ⟨b,0,none⟩ x).setCell ⟨b,1,none⟩ y).setCell ⟨b,2,none⟩ z).cell? ⟨b,0,none⟩=some x:=by
 rw[World.cell?_setCell_other _ _ _ _ (by intro e;cases e),World.cell?_setCell_other _ _ _ _ (by intro e;cases e)]
 exact World.cell?_setCell_same _ _ _ h
theorem yI{w:World}{b:Nat}{u:Value}(h:w.cell? ⟨b,0+1,none⟩=some u)(x y z:Value):(((w.setCell ⟨b,0,none⟩ x).setCell ⟨b,1,none⟩ y).setCell ⟨b,2,none⟩ z).cell? ⟨b,1,none⟩=some y:=by
 rw[World.cell?_setCell_other _ _ _ _ (by intro e;cases e)]
 exact World.cell?_setCell_same _ _ _ (by rw[World.cell?_setCell_other _ _ _ _ (by intro e;cases e)];exact h)
theorem AI{w:World}{b:Nat}{u:Value}(h:w.cell? ⟨b,0+2,none⟩=some u)(x y z:Value):(((w.setCell ⟨b,0,none⟩ x).setCell ⟨b,1,none⟩ y).setCell ⟨b,2,none⟩ z).cell? ⟨b,2,none⟩=some z:=
 World.cell?_setCell_same _ _ _ (by rw[World.cell?_setCell_other _ _ _ _ (by intro e;cases e),World.cell?_setCell_other _ _ _ _ (by intro e;cases e)];exact h)
theorem LS.bel3{w W:World}{b:Nat}{l:Bool}{t c:ByteArray}(h:LS w W b l t c)(x y z:Value):Below w.heap.size w (((W.setCell ⟨w.heap.size,0,none⟩ x).setCell ⟨w.heap.size,1,none⟩ y).setCell ⟨w.heap.size,2,none⟩ z):=
 ((h.bel.setCell (nR _) _).setCell (nR _) _).setCell (nR _) _
end Go.Proofs.YtpbolcjcmkmalaaGreatDoor
namespace Go.Proofs.YtpbolcjcmkmalaaGreatDoor
theorem vR(f:UInt8→Bool):∀(l:List UInt8) (i:Nat) (c:UInt8),i<(l.takeWhile f).length→l[i]?=some c→f c=true
 | [],i,c,h,_=>by simp at h
 |x::l,i,c,h,hc=>by
  by_cases hx:f x=true
  ·rw[List.takeWhile_cons_of_pos hx] at h
   cases i with
   |zero=>simp at hc;rw[←hc];exact hx
   |succ i=>exact vR f l i c (by simpa using h) (by simpa using hc)
  ·rw[List.takeWhile_cons_of_neg hx] at h
   simp at h
theorem IP(f:UInt8→Bool):∀(l:List UInt8) (c:UInt8),l[(l.takeWhile f).length]?=some c→f c=false
 | [],c,h=>by simp at h
 |x::l,c,h=>by
  by_cases hx:f x=true
  ·rw[List.takeWhile_cons_of_pos hx] at h
   exact IP f l c (by simpa using h)
  ·rw[List.takeWhile_cons_of_neg hx] at h
   simp at h
   rw[←h];simpa using hx
def ps(s:ByteArray):Nat→Int
 |0=>0
 |k+1=>min (ps s k * 10+sV s k) 100001
def rs(s:ByteArray):Nat→Int
 |0=>0
 |k+1=>if rs s k<1099511627776 then rs s k * 10+sV s k else rs s k
end Go.Proofs.YtpbolcjcmkmalaaGreatDoor
namespace Go.Proofs.YtpbolcjcmkmalaaGreatDoor
open Go.RowKit Go.Extern.Stop Go.Stop Go.Extern
theorem fP(c:UInt8)(w:World):Calls Tryz.prog 84 #[.int .u8 c.toNat] w fun e w'=>e=.returned (.bool (IE c.toNat))∧w'=w:=by
 rw[lM]
 cases h1:decide ((48:Int)≤c.toNat)
 all_goals
  go_enter Tryz.func84,Tryz.ntmps84
  go_wp2
  go_ret
  exact⟨rfl,rfl⟩
theorem tR(c:UInt8)(w:World):Calls Tryz.prog 85 #[.int .u8 c.toNat] w fun e w'=>e=.returned (.bool (dF c.toNat))∧w'=w:=by
 rw[CM]
 cases h1:decide ((97:Int)≤c.toNat)
 all_goals
  go_enter Tryz.func85,Tryz.ntmps85
  go_wp2
  go_ret
  exact⟨rfl,rfl⟩
theorem sR(c:UInt8)(w:World):Calls Tryz.prog 86 #[.int .u8 c.toNat] w fun e w'=>e=.returned (.bool (GG c.toNat))∧w'=w:=by
 rw[kM]
 cases h1:decide ((65:Int)≤c.toNat)
 all_goals
  go_enter Tryz.func86,Tryz.ntmps86
  go_wp2
  go_ret
  exact⟨rfl,rfl⟩
def OF(p:Nat→Bool)(s:ByteArray):Nat:=((bl s).takeWhile (fun c=>p c.toNat)).length
theorem kH(p:Nat→Bool)(s:ByteArray):OF p s≤s.size:=by
 rw[←oA]
 exact(List.takeWhile_sublist _).length_le
theorem IJ(p:Nat→Bool)(s:ByteArray)(i:Nat)(h:i<OF p s):∃hs:i<s.size,p s[i].toNat=true:=by
 have hl:=kH p s
 have hs:i<s.size:=by omega
 exact⟨hs,vR (fun c=>p c.toNat) (bl s) i _ h (WC s i hs)⟩
theorem XH(p:Nat→Bool)(s:ByteArray)(hs:OF p s<s.size):p s[OF p s].toNat=false:=IP (fun c=>p c.toNat) (bl s) _ (WC s _ hs)
theorem JJ{p:Nat→Bool}{s:ByteArray}{k:Nat}(hk:k≤s.size)(h1:AllP p s 0 k)(h2:∀h:k<s.size,p s[k].toNat=false):OF p s=k:=by
 have hl:=kH p s
 rcases Nat.lt_trichotomy (OF p s) k with c|c|c
 ·have:=XH p s (by omega)
  rw[h1 _ (by omega) (Nat.zero_le _) c] at this
  cases this
 ·exact c
 ·obtain⟨hs,h⟩:=IJ p s k c
  rw[h2 hs] at h
  cases h
theorem lQ{s:ByteArray}{k:Nat}(h:Lab s k false):OF IE s=k:=by
 refine JJ h.ks ?_ (fun hk=>?_)
 ·rcases h.stem with ⟨_,a,_⟩|⟨e,_⟩
  ·exact a
  ·cases e
 ·cases hc:IE s[k].toNat
  ·rfl
  ·have:=dgN_iff.1 hc
   have:=cpN_iff.1 (h.cap k hk (nR _) hk)
   omega
theorem DO{s:ByteArray}{k:Nat}(h:Lab s k true):OF IE s=0∧OF dF s=k:=by
 have ha:AllP dF s 0 k:=by
  rcases h.stem with ⟨e,_⟩|⟨_,a⟩
  ·cases e
  ·exact a
 constructor
 ·refine JJ (Nat.zero_le _) (fun i hi a b=>by omega) (fun hk=>?_)
  cases hc:IE s[0].toNat
  ·rfl
  ·have:=dgN_iff.1 hc
   have:=smN_iff.1 (ha 0 hk (Nat.zero_le _) h.k1)
   omega
 ·refine JJ h.ks ha (fun hk=>?_)
  cases hc:dF s[k].toNat
  ·rfl
  ·have:=smN_iff.1 hc
   have:=cpN_iff.1 (h.cap k hk (nR _) hk)
   omega
theorem JM:∀(l:List UInt8) (c:UInt8),vd (l++[c])=vd l * 10+(c.toNat - 48)
 | [],c=>by simp[vd]
 |d::t,c=>by
  show (d.toNat - 48) * 10 ^ (t++[c]).length+vd (t++[c])=((d.toNat - 48) * 10 ^ t.length+vd t) * 10+(c.toNat - 48)
  rw[JM t c,List.length_append,show [c].length=1 from rfl,Nat.pow_succ,Nat.add_mul,←Nat.mul_assoc]
  omega
theorem ZQ(s:ByteArray)(i:Nat)(h:i<s.size):vd ((bl s).take (i+1))=vd ((bl s).take i) * 10+(s[i].toNat - 48):=by
 have e:(bl s).take (i+1)=(bl s).take i++[s[i]]:=by
  rw[List.take_add_one,WC s i h]
  rfl
 rw[e,JM]
inductive It where
 |mk (label head:ByteArray) (lines:List ByteArray) (kids:List It)
def It.label:It→ByteArray| .mk a _ _ _=>a
def It.head:It→ByteArray| .mk _ b _ _=>b
def It.lines:It→List ByteArray| .mk _ _ c _=>c
def It.kids:It→List It| .mk _ _ _ d=>d
def It.none:It:=.mk ⟨#[]⟩ ⟨#[]⟩ [] []
def DP(s:ByteArray)(c:Nat):Bool:=if h:0<s.size then s[0].toNat==c else false
noncomputable def isLab (s:ByteArray):Bool:=open Classical in decide (∃k l,Lab s k l)
noncomputable def hasKid (t:It) (s:ByteArray):Bool:=t.kids.any fun k=>k.label.toList==s.toList
theorem aA{p:Prop}(h:p):Hid p:=h
structure BelX(B x:Nat)(a w:World):Prop where
 os:w.os=a.os
 tape:w.tape=a.tape
 output:w.output=a.output
 size:a.heap.size≤w.heap.size
 block:∀k,k<B→k≠x→w.heap[k]?=a.heap[k]?
theorem Below.x{n B:Nat}{a w:World}(h:Below n a w)(x:Nat)(hB:B≤n):BelX B x a w:=⟨h.os,h.tape,h.output,h.size,fun k hk _=>h.block k (by omega)⟩
theorem BelX.refl(B x:Nat)(a:World):BelX B x a a:=⟨rfl,rfl,rfl,nR _,fun _ _ _=>rfl⟩
theorem BelX.trans{B x:Nat}{a b c:World}(h:BelX B x a b)(h':BelX B x b c):BelX B x a c:=⟨h'.os.trans h.os,h'.tape.trans h.tape,h'.output.trans h.output,Nat.le_trans h.size h'.size,fun k hk hx=>(h'.block k hk hx).trans (h.block k hk hx)⟩
theorem BelX.setCell{B x:Nat}{a w:World}(h:BelX B x a w){p:Addr}(hp:B≤p.block∨p.block=x)(u:Value):BelX B x a (w.setCell p u):=
 ⟨h.os,h.tape,h.output,by have:=h.size;simp;exact this,fun k hk hx=>by rw[Below.heap_setCell _ _ _ _ (by rcases hp with hp|hp;omega;rw[hp];exact hx)];exact h.block k hk hx⟩
theorem BelX.down{B x n:Nat}{a w:World}(h:BelX B x a w)(h1:n≤B)(h2:n≤x):Below n a w:=⟨h.os,h.tape,h.output,h.size,fun k hk=>h.block k (by omega) (by omega)⟩
theorem BelX.cell{B x:Nat}{a w:World}(h:BelX B x a w){p:Addr}(h1:p.block<B)(h2:p.block≠x):w.cell? p=a.cell? p:=World.cell?_of_block (h.block _ h1 h2)
inductive Lies(w:World)(P:Nat→Prop):(Nat→Value)→It→Prop
 |mk (v:Nat→Value) (t:It) (la ka:Option Addr) (lc kc:Nat) (V:Nat→Nat→Value)
  (h0:v 0=.string t.label) (h1:v 1=.string t.head) (h2:v 2=.slice la t.lines.length lc) (h3:v 3=.slice ka t.kids.length kc)
  (hl:∀i s,t.lines[i]?=some s→∃b o,la=some ⟨b,o,none⟩∧P b∧w.cell? ⟨b,o+i,none⟩=some (.string s))
  (hk:∀i,i<t.kids.length→∃b o,ka=some ⟨b,o,none⟩∧P b∧∀c,c<4→w.cell? ⟨b,o+i * 4+c,none⟩=some (V i c))
  (hr:∀i k,t.kids[i]?=some k→Lies w P (V i) k) (hlc:t.lines.length≤lc) (hkc:t.kids.length≤kc):Lies w P v t
theorem zB{w:World}{B e s:Nat}{a:Option Addr}{n c:Nat}{xs:List Value}(h:w.ownsRow B e s (.slice a n c) n xs):n≤c:=by
 rcases h.2 with ⟨_,h0⟩|⟨g,cap,cur,e1,hb,hgg,h1,_⟩
 ·omega
 ·injection e1 with _ _ e3
  omega
theorem dA{w:World}{b i:Nat}{v:Value}(h:w.cell? ⟨b,i,none⟩=some v):b<w.heap.size:=World.block_lt_of_cell? w ⟨b,i,none⟩ h
theorem Lies.step{w w':World}{P P':Nat→Prop}{v:Nat→Value}{t:It}(h:Lies w P v t):(∀b,b<w.heap.size→P b→w'.heap[b]?=w.heap[b]?∧P' b)→Lies w' P' v t:=by
 induction h with
 |mk v t la ka lc kc V h0 h1 h2 h3 hl hk hr hlc hkc ih=>
  intro hh
  refine .mk v t la ka lc kc V h0 h1 h2 h3 (fun i s hs=>?_) (fun i hi=>?_) (fun i k e=>ih i k e hh) hlc hkc
  ·obtain⟨b,o,e,p,c⟩:=hl i s hs
   have:=hh b (dA c) p
   exact⟨b,o,e,this.2,(World.cell?_of_block (a:=⟨b,o+i,none⟩) this.1).trans c⟩
  ·obtain⟨b,o,e,p,c⟩:=hk i hi
   have:=hh b (dA (c 0 (by omega))) p
   exact⟨b,o,e,this.2,fun q hq=>(World.cell?_of_block (a:=⟨b,o+i * 4+q,none⟩) this.1).trans (c q hq)⟩
theorem Lies.bel{w w':World}{P:Nat→Prop}{v:Nat→Value}{t:It}(h:Lies w P v t)(hb:Below w.heap.size w w'):Lies w' P v t:=h.step fun b hb' p=>⟨hb.block b hb',p⟩
def GA(V:Nat→Nat→Value)(n:Nat):List Value:=(List.range (n * 4)).map fun q=>V (q / 4) (q % 4)
theorem LA(V:Nat→Nat→Value)(n:Nat):(GA V n).length=n * 4:=by unfold GA;simp
theorem bB(V:Nat→Nat→Value)(n j c:Nat)(hj:j<n)(hc:c<4):(GA V n)[j * 4+c]?=some (V j c):=by
 unfold GA
 rw[List.getElem?_map,List.getElem?_range (by omega)]
 simp only[Option.map_some,Option.some.injEq]
 rw[show (j * 4+c) / 4=j by omega,show (j * 4+c) % 4=c by omega]
theorem gR{V V':Nat→Nat→Value}{n:Nat}(h:∀j c,j<n→c<4→V j c=V' j c):GA V n=GA V' n:=by
 unfold GA
 refine List.map_congr_left fun q hq=>?_
 rw[List.mem_range] at hq
 exact h _ _ (by omega) (by omega)
def mD(V:Nat→Nat→Value)(n:Nat)(x:Nat→Value):Nat→Nat→Value:=fun j=>if j=n then x else V j
theorem DL(V:Nat→Nat→Value)(n:Nat)(x:Nat→Value):GA V n++[x 0,x 1,x 2,x 3]=GA (mD V n x) (n+1):=by
 apply List.ext_getElem?
 intro q
 rcases Nat.lt_or_ge q (n * 4) with h|h
 ·rw[List.getElem?_append_left (by rw[LA];exact h)]
  have e:q=q / 4 * 4+q % 4:=by omega
  rw[e,bB _ _ _ _ (by omega) (by omega),bB _ _ _ _ (by omega) (by omega)]
  unfold mD
  rw[if_neg (by omega)]
 ·rw[List.getElem?_append_right (by rw[LA];exact h),LA]
  rcases Nat.lt_or_ge q ((n+1) * 4) with h2|h2
  ·have e:q=n * 4+(q - n * 4):=by omega
   obtain⟨c,hc⟩:∃c,c=q - n * 4:=⟨_,rfl⟩
   rw[e,bB _ _ _ _ (by omega) (by omega),←hc]
   unfold mD
   rw[if_pos rfl]
   rw[show n * 4+c - n * 4=c by omega]
   have:c<4:=by omega
   match c,this with
   |0,_=>rfl
   |1,_=>rfl
   |2,_=>rfl
   |3,_=>rfl
  ·rw[List.getElem?_eq_none (by simp;omega),List.getElem?_eq_none (by rw[LA];exact h2)]
theorem CA{w w':World}{B e s:Nat}{v:Value}{n:Nat}{xs:List Value}(h:w.ownsRow B e s v n xs)(hk:∀g,v.ownBlock=some g→g<w.heap.size→w'.heap[g]?=w.heap[g]?):w'.ownsRow B e s v n xs:=by
 refine⟨h.1,?_⟩
 rcases h.2 with hn|⟨g,cap,cur,rfl,hb,hgg,rest⟩
 ·exact .inl hn
 ·exact .inr ⟨g,cap,cur,rfl,hb,(hk g rfl (Array.getElem?_eq_some_iff.1 hgg).1).trans hgg,rest⟩
theorem oP{w:World}{B e s:Nat}{a:Option Addr}{c n:Nat}{xs:List Value}(h:w.ownsRow B e s (.slice a n c) n xs)(m:Nat)(hm:m≤n):w.ownsRow B e s (.slice a m c) m (xs.take (m * s)):=by
 have hle:m * s≤n * s:=Nat.mul_le_mul_right _ hm
 refine⟨by rw[List.length_take,h.1];omega,?_⟩
 rcases h.2 with ⟨hn,h0⟩|⟨g,cap,cur,e1,hb,hgg,h1,h2,h3,h4⟩
 ·injection hn with h5 h6 h7
  subst h5 h7 h0
  obtain rfl:m=0:=by omega
  exact .inl ⟨rfl,rfl⟩
 ·injection e1 with h5 h6 h7
  subst h5 h7
  refine .inr ⟨g,c,cur,rfl,hb,hgg,by omega,h2,h3,?_⟩
  rw[←h4,List.take_take,Nat.min_eq_left hle]
theorem bD{w:World}{B e s:Nat}{v:Value}{n:Nat}{xs:List Value}(h:w.ownsRow B e s v n xs)(hn:0<n):∃g cap,v=.slice (some ⟨g,0,none⟩) n cap∧g<w.heap.size∧B≤g:=by
 rcases h.2 with ⟨_,h0⟩|⟨g,cap,cur,rfl,hb,hgg,_⟩
 ·omega
 ·exact⟨g,cap,rfl,(Array.getElem?_eq_some_iff.1 hgg).1,hb⟩
theorem tA{w:World}{B e s:Nat}{v:Value}{n:Nat}{xs:List Value}(h:w.ownsRow B e s v n xs):∃a cap,v=.slice a n cap:=by
 rcases h.2 with ⟨rfl,rfl⟩|⟨g,cap,cur,rfl,_⟩
 ·exact⟨_,_,rfl⟩
 ·exact⟨_,_,rfl⟩
theorem rF{P:Program}(w:World)(B:Nat)(t ty e:TypeId)(i:TypeInfo)(zv:Value)(size bytes:Nat)(ht:P.underlying t=some (.slice e))(hi:P.info? e=some i)(hz:i.zero=some zv)
 (hsize:i.size=size) (hby:i.bytes=bytes) (v:Value) (n:Nat) (xs:List Value) (hown:w.ownsRow B e size v n xs)
 (a:Addr) (m c:Nat) (news:List Value) (hl:news.length=m * size) (hnews:∀j u,news[j]?=some u→w.cell? (a.add j)=some u) (h1:∀u∈news,u.oneCell'=true) (hm:0<m)
 (h63:n+m≤maxLen) (hbytes:(n+m) * bytes≤140737488355328) (v':Value) (w':World) (hr:(Builtin.append_ #[t,t] ty #[v,.slice (some a) m c]).run P w=.ok v' w'):
 v'.ownBlock=v.ownBlock∨v'.ownBlock=some w.heap.size:=by
 subst hsize
 subst hby
 have hsmall:n+m≤9223372036854775807:=by simp only[maxLen] at h63;omega
 rcases hown.2 with ⟨rfl,rfl⟩|⟨g,cap,cur,rfl,hbg,hg,hnc,hcm,hcs,htake⟩
 ·have hr2:=run_append_nil (P:=P) w t ty e i zv ht hi hz a m c news hl hnews (by omega) (by omega) (by have hb:=hbytes;simp only[Nat.zero_add] at hb;omega)
  rw[hr2] at hr
  injection hr with e1 e2
  subst e1
  exact .inr rfl
 ·by_cases hroom:n+m≤cap
  ·have hfit:n * i.size+news.length≤cur.size:=by rw[hl,hcs,←Nat.add_mul];exact Nat.mul_le_mul_right _ hroom
   have hr2:=run_append_room (P:=P) w t ty e i ht hi g n cap cur hg a m c news hl hnews h1 hroom hfit
   rw[hr2] at hr
   injection hr with e1 e2
   subst e1
   exact .inl rfl
  ·have hr2:=run_append_grow (P:=P) w t ty e i zv ht hi hz ⟨g,0,none⟩ n cap xs hown.1 (hown.cells (g:=g) rfl) a m c news hl hnews (by omega) (by omega) (growslice_fits (by omega) hbytes)
   rw[hr2] at hr
   injection hr with e1 e2
   subst e1
   exact .inr rfl
theorem AA{P:Program}(w:World){ops:Array Oper}{rest:List Oper}{o:Oper}{a:Act}{Q:Exit→Act→World→Prop}(hgd:o.guard=none)(s x:Operand)(t:TypeId)
 (ho:o.op=.call {callee:=.builtin .append,args:=#[s,x],argTypes:=#[t,t]})
 (B:Nat) (e:TypeId) (i:TypeInfo) (z:Value) (size bytes:Nat) (ht:P.underlying t=some (.slice e)) (hi:P.info? e=some i) (hz:i.zero=some z)
 (hsize:i.size=size) (hby:i.bytes=bytes) (hzs:z.cells.size=size) (hsz:0<size)
 (v:Value) (n:Nat) (xs:List Value) (hs:a.eval s=v) (hown:w.ownsRow B e size v n xs)
 (ad:Addr) (m c:Nat) (news:List Value) (hx:a.eval x=.slice (some ad) m c) (hl:news.length=m * size) (hnews:∀j u,news[j]?=some u→w.cell? (ad.add j)=some u) (h1:∀u∈news,u.oneCell'=true) (hm:0<m)
 (h63:n+m≤maxLen) (hbytes:(n+m) * bytes≤140737488355328) (hbase:B≤w.heap.size)
 (h:∀v' w',w'.ownsRow B e size v' (n+m) (xs++news)→w.grownBy w' v.ownBlock→(v'.ownBlock=v.ownBlock∨v'.ownBlock=some w.heap.size)→wpList P ops Q rest (a.put o.dst v') w'):wpList P ops Q (o::rest) a w:=by
 refine wpList_plain hgd fun K hK=>?_
 obtain⟨v',w',hr,h2,h3,h4⟩:=run_append_own (P:=P) w B t o.type e i z size bytes ht hi hz hsize hby hzs hsz v n xs hown ad m c news hl hnews h1 h63 hbytes hbase
 have h5:=rF (P:=P) w B t o.type e i z size bytes ht hi hz hsize hby v n xs hown ad m c news hl hnews h1 hm h63 hbytes v' w' hr
 unfold Oper.wp execOp
 simp only[ho,resolve,invoke,builtin,Sem.run_bind,Sem.run_pure,Result.andThen_ok,List.map_toArray,List.map_cons,List.map_nil,hs,hx,hr]
 exact hK _ _ (h v' w' h2 h3 h5)
theorem nD{P:Program}{ops:Array Oper}{o:Oper}{a:Act}{w:World}{K:Act→World→Prop}{Q:Exit→Act→World→Prop}{E:Prop}
 (hgd:o.guard=none) (s x:Operand) (t:TypeId) (ho:o.op=Op.call {callee:=Callee.builtin Builtin.append,args:=#[s,x],argTypes:=#[t,t]})
 (B:Nat) (e:TypeId) (i:TypeInfo) (z:Value) (size bytes:Nat) (ht:P.underlying t=some (.slice e)) (hi:P.info? e=some i) (hz:i.zero=some z) (hsize:i.size=size) (hby:i.bytes=bytes) (hzs:z.cells.size=size) (hsz:0<size)
 (v:Value) (n:Nat) (xs:List Value) (hs:a.eval s=v) (hown:w.ownsRow B e size v n xs)
 (ad:Addr) (m c:Nat) (news:List Value) (hx:a.eval x=.slice (some ad) m c) (hl:news.length=m * size) (hnews:∀j u,news[j]?=some u→w.cell? (ad.add j)=some u) (h1:∀u∈news,u.oneCell'=true) (hm:0<m)
 (h63:n+m≤maxLen) (hbytes:(n+m) * bytes≤140737488355328) (hbase:B≤w.heap.size)
 (hK:∀v' w',w'.ownsRow B e size v' (n+m) (xs++news)→w.grownBy w' v.ownBlock→(v'.ownBlock=v.ownBlock∨v'.ownBlock=some w.heap.size)→K (a.put o.dst v') w'):
 if Region.wanted o (yielded ops a.tmps)=true then Oper.wp P o a w K Q else E:=by
 have hw:Region.wanted o (yielded ops a.tmps)=true:=by simp[Region.wanted,hgd]
 rw[if_pos hw]
 obtain⟨v',w',hr,h2,h3,h4⟩:=run_append_own (P:=P) w B t o.type e i z size bytes ht hi hz hsize hby hzs hsz v n xs hown ad m c news hl hnews h1 h63 hbytes hbase
 have h5:=rF (P:=P) w B t o.type e i z size bytes ht hi hz hsize hby v n xs hown ad m c news hl hnews h1 hm h63 hbytes v' w' hr
 unfold Oper.wp
 simp[execOp,ho,resolve,invoke,builtin,hs,hx,hr,Result.andThen]
 exact hK v' w' h2 h3 h5
structure LikeW(w' w:World):Prop where
 os:w'.os=w.os
 tape:w'.tape=w.tape
 output:w'.output=w.output
 heap:w'.heap=w.heap
def wA(a b c d:Value):Nat→Value
 |0=>a
 |1=>b
 |2=>c
 |_=>d
theorem ZO{W:World}{v v':Value}{w:World}(hA:Below w.heap.size w W)(hw:v'.ownBlock=v.ownBlock∨v'.ownBlock=some W.heap.size){k:Nat}(hk:k<w.heap.size)(hne:some k≠v.ownBlock):v'.ownBlock≠some k:=by
 intro e
 rcases hw with h|h
 ·exact hne (by rw[←h,e])
 ·rw[h] at e;injection e with e;have:=hA.size;omega
theorem vI(a h s:ByteArray)(la ka:Option Addr)(n lc m kc:Nat)(bs:Nat)(w:World)(hs:w.cell? ⟨bs,0,none⟩=some (.string s)):
 Calls Tryz.prog 122 #[.agg #[.string a,.string h,.slice la n lc,.slice ka m kc],.pointer (some ⟨bs,0,none⟩)] w fun e w'=>e=.returned (.bool (a.toList==s.toList))∧w'=w.alloc (.cells #[.string a,.string h,.slice la n lc,.slice ka m kc] 25):=by
 have hl:=World.block_lt_of_cell? w ⟨bs,0,none⟩ hs
 have hs2:(w.alloc (.cells #[.string a,.string h,.slice la n lc,.slice ka m kc] 25)).cell? ⟨bs,0,none⟩=some (.string s):=by
  rw[World.cell?_alloc_lt _ _ ⟨bs,0,none⟩ hl];exact hs
 go_enter Tryz.func122,Tryz.ntmps122
 go_wp2
 go_ret
 exact⟨rfl,rfl⟩
theorem sI(n:Nat)(ka:Option Addr)(kc:Nat)(L:Nat→ByteArray)(H:Nat→ByteArray)(la ma:Nat→Option Addr)(ln lc mn mc:Nat→Nat)(s:ByteArray)(bs:Nat)(w:World)(hn:n≤100000)(hs:w.cell? ⟨bs,0,none⟩=some (.string s))
 (hk:∀i,i<n→∃b o,ka=some ⟨b,o,none⟩∧w.cell? ⟨b,o+i * 4,none⟩=some (.string (L i))∧w.cell? ⟨b,o+i * 4+1,none⟩=some (.string (H i))∧w.cell? ⟨b,o+i * 4+2,none⟩=some (.slice (la i) (ln i) (lc i))∧w.cell? ⟨b,o+i * 4+3,none⟩=some (.slice (ma i) (mn i) (mc i))):
 Calls Tryz.prog 108 #[.slice ka n kc,.func (.func 122) #[] #[.pointer (some ⟨bs,0,none⟩)]] w fun e w'=>(∃k:Int,e=.returned (.int .i64 k)∧-1≤k∧(0≤k↔∃i,i<n∧((L i).toList==s.toList)=true))∧Below w.heap.size w w':=by
 have hl:=World.block_lt_of_cell? w ⟨bs,0,none⟩ hs
 go_enter Tryz.func108,Tryz.ntmps108
 go_wp2_with fail
 go_loopw [8] (fun t wr=>∃i:Nat,i≤n∧t=.int .i64 i∧Below w.heap.size w wr∧∀j,j<i→((L j).toList==s.toList)=false) (fun t _=>(n - RowKit.intOf t).toNat)
 case atStart=>exact⟨0,by omega,rfl,Below.refl _ _,fun j hj=>by omega⟩
 case round=>
  obtain⟨i,hi,rfl,hb,hno⟩:=hrel
  have HB:=aA hb
  have HN:=aA hno
  clear hb hno
  by_cases hin:i<n
  ·obtain⟨b,o,rfl,c0,c1,c2,c3⟩:=hk i hin
   have hiz:(i:Int)<n:=by omega
   have hbl:=World.block_lt_of_cell? w ⟨b,o+i * 4,none⟩ c0
   have d0:=(HB.out.cell (p:=⟨b,o+i * 4,none⟩) hbl).trans c0
   have d1:=(HB.out.cell (p:=⟨b,o+i * 4+1,none⟩) hbl).trans c1
   have d2:=(HB.out.cell (p:=⟨b,o+i * 4+2,none⟩) hbl).trans c2
   have d3:=(HB.out.cell (p:=⟨b,o+i * 4+3,none⟩) hbl).trans c3
   have HC:=aA (vI (L i) (H i) s (la i) (ma i) (ln i) (lc i) (mn i) (mc i) bs wr ((HB.out.cell (p:=⟨bs,0,none⟩) hl).trans hs))
   have HK:=aA hk
   clear c0 c1 c2 c3 hk
   cases hq:((L i).toList==s.toList)
   ·rw[hq] at HC
    have HQ:=aA hq
    clear hq
    go_wp2_with fail
    refine HC.out.mono ?_
    rintro e w1 ⟨rfl,ew⟩
    go_wp2
    go_roundw
    case rel=>
     refine⟨i+1,by omega,by go_num,?_,fun j hj=>?_⟩
     ·first|exact HB.out.alloc HB.out.size _|(rw[ew];exact HB.out.alloc HB.out.size _)
     ·rcases Nat.lt_or_ge j i with h|h
      ·exact HN.out j h
      ·obtain rfl:j=i:=by omega
       exact HQ.out
    case measure=>simp[RowKit.intOf];omega
   ·rw[hq] at HC
    have HQ:=aA hq
    clear hq
    go_wp2_with fail
    refine HC.out.mono ?_
    rintro e w1 ⟨rfl,ew⟩
    go_wp2
    go_ret
    refine⟨⟨i,rfl,by omega,⟨fun _=>⟨i,hin,HQ.out⟩,fun _=>by omega⟩⟩,?_⟩
    first|exact HB.out.alloc HB.out.size _|(rw[ew];exact HB.out.alloc HB.out.size _)
  ·obtain rfl:i=n:=by omega
   clear hk
   go_wp2
   go_ret
   refine⟨⟨-1,rfl,by omega,⟨fun h=>by omega,?_⟩⟩,HB.out⟩
   rintro ⟨j,hj,hq⟩
   have:=HN.out j hj
   rw[this] at hq
   cases hq
theorem xJ(n:Nat)(ka:Option Addr)(kc:Nat)(L:Nat→ByteArray)(H:Nat→ByteArray)(la ma:Nat→Option Addr)(ln lc mn mc:Nat→Nat)(s:ByteArray)(w:World)(hn:n≤100000)
 (hk:∀i,i<n→∃b o,ka=some ⟨b,o,none⟩∧w.cell? ⟨b,o+i * 4,none⟩=some (.string (L i))∧w.cell? ⟨b,o+i * 4+1,none⟩=some (.string (H i))∧w.cell? ⟨b,o+i * 4+2,none⟩=some (.slice (la i) (ln i) (lc i))∧w.cell? ⟨b,o+i * 4+3,none⟩=some (.slice (ma i) (mn i) (mc i))):
 Calls Tryz.prog 99 #[.slice ka n kc,.string s] w fun e w'=>(∃k:Int,e=.returned (.int .i64 k)∧-1≤k∧(0≤k↔∃i,i<n∧((L i).toList==s.toList)=true))∧Below w.heap.size w w':=by
 have hb:Below w.heap.size w (w.alloc (.cells #[.string s] 9)):=bA _ _
 have HC:=aA (sI n ka kc L H la ma ln lc mn mc s w.heap.size (w.alloc (.cells #[.string s] 9)) hn (by simp) (fun i hi=>by
  obtain⟨b,o,e,c0,c1,c2,c3⟩:=hk i hi
  have hbl:=World.block_lt_of_cell? w ⟨b,o+i * 4,none⟩ c0
  exact⟨b,o,e,(hb.cell (p:=⟨b,o+i * 4,none⟩) hbl).trans c0,(hb.cell (p:=⟨b,o+i * 4+1,none⟩) hbl).trans c1,(hb.cell (p:=⟨b,o+i * 4+2,none⟩) hbl).trans c2,(hb.cell (p:=⟨b,o+i * 4+3,none⟩) hbl).trans c3⟩))
 clear hk
 go_enter Tryz.func99,Tryz.ntmps99
 go_wp2_with fail
 refine HC.out.mono ?_
 rintro e w1 ⟨⟨k,rfl,hk1,hk2⟩,hb1⟩
 have H2:=aA hk2
 clear hk2
 go_wp2
 go_ret
 exact⟨⟨k,rfl,hk1,H2.out⟩,hb.trans (hb1.mono (by simp))⟩
theorem OC(w:World)(a b:Obj):((w.alloc a).alloc b).heap[w.heap.size]?=some a∧((w.alloc a).alloc b).heap[w.heap.size+1]?=some b:=by
 refine⟨?_,?_⟩
 ·have h1:=Below.heap_alloc (w.alloc a) b w.heap.size (by simp)
  rw[h1];exact heap_alloc_new w a
 ·have h1:=heap_alloc_new (w.alloc a) b
  have h2:(w.alloc a).heap.size=w.heap.size+1:=by simp
  rw[h2] at h1;exact h1
theorem gA{W:World}{g:Nat}{a b c d:Value}{t:TypeId}(h:W.heap[g]?=some (.cells #[a,b,c,d] t (0,0))):W.cell? ⟨g,0,none⟩=some a∧W.cell? ⟨g,1,none⟩=some b∧W.cell? ⟨g,2,none⟩=some c∧W.cell? ⟨g,3,none⟩=some d∧∀i,W.frozen? ⟨g,i,none⟩=false:=by
 simp[World.cell?,World.frozen?,h]
theorem gB(b:Nat):∀(vs:List Value) (o:Nat) (W:World) (k:Nat),k≠b→(W.setCells b o vs).heap[k]?=W.heap[k]?
 | [],_,_,_,_=>rfl
 |v::r,o,W,k,hk=>by
  rw[World.setCells,gB b r (o+1) _ k hk]
  exact Below.heap_setCell _ _ _ _ hk
theorem vA(b:Nat):∀(vs:List Value) (o:Nat) (W:World),(W.setCells b o vs).os=W.os∧(W.setCells b o vs).tape=W.tape∧(W.setCells b o vs).output=W.output∧(W.setCells b o vs).heap.size=W.heap.size
 | [],_,_=>⟨rfl,rfl,rfl,rfl⟩
 |v::r,o,W=>by
  obtain⟨h1,h2,h3,h4⟩:=vA b r (o+1) (W.setCell ⟨b,o,none⟩ v)
  rw[World.setCells]
  exact⟨h1,h2,h3,h4.trans (by simp)⟩
theorem pD(b:Nat):∀(vs:List Value) (o:Nat) {W W':World},W.heap=W'.heap→(W.setCells b o vs).heap=(W'.setCells b o vs).heap
 | [],_,_,_,h=>h
 |v::r,o,W,W',h=>by
  rw[World.setCells,World.setCells]
  refine pD b r (o+1) ?_
  unfold World.setCell
  rw[h]
theorem OA{w:World}{g o:Nat}{cur:Array Value}{T:TypeId}{fr:Nat×Nat}(v:Value)(h:w.heap[g]?=some (.cells cur T fr)):(w.setCell ⟨g,o,none⟩ v).heap[g]?=some (.cells (cur.setIfInBounds o v) T fr):=by
 have hlt:=(Array.getElem?_eq_some_iff.1 h).1
 simp[World.setCell,Array.getElem?_modify,h]
theorem PF(g:Nat)(T:TypeId)(fr:Nat×Nat):∀(vs:List Value) (o:Nat) (w:World) (cur:Array Value),w.heap[g]?=some (.cells cur T fr)→o+vs.length≤cur.size→∃cur',(w.setCells g o vs).heap[g]?=some (.cells cur' T fr)∧cur'.size=cur.size∧cur'.toList=cur.toList.take o++vs++cur.toList.drop (o+vs.length)
 | [],o,w,cur,h,hl=>⟨cur,h,rfl,by simp⟩
 |v::r,o,w,cur,h,hl=>by
  rw[List.length_cons] at hl
  obtain⟨cur',h1,h2,h3⟩:=PF g T fr r (o+1) (w.setCell ⟨g,o,none⟩ v) (cur.setIfInBounds o v) (OA v h) (by simp;omega)
  refine⟨cur',by rw[World.setCells];exact h1,by rw[h2];simp,?_⟩
  rw[h3,Array.toList_setIfInBounds]
  have ho:o<cur.toList.length:=by simp;omega
  have e1:(cur.toList.set o v).take (o+1)=cur.toList.take o++[v]:=by
   rw[List.take_succ_eq_append_getElem (by simpa using ho),List.getElem_set_self,List.take_set_of_le (nR _)]
  have e2:(cur.toList.set o v).drop (o+1+r.length)=cur.toList.drop (o+1+r.length):=by
   rw[List.drop_set_of_lt (by omega)]
  rw[e1,e2,List.length_cons,show o+1+r.length=o+(r.length+1) by omega]
  simp
variable {P:Program}
theorem PB(w:World)(dT sT ty elem:TypeId)(b o dLen dCap:Nat)(a:Addr)(sLen sCap k:Nat)(cs:List Value)
 (hu:P.underlying dT=some (.slice elem)) (hs:(P.info? elem).map (·.size)=some k) (hn:cs.length=Nat.min sLen dLen * k)
 (hsrc:∀j v,cs[j]?=some v→w.cell? (a.add j)=some v) (hc:∀j,j<cs.length→(w.cell? ⟨b,o+j,none⟩).isSome=true) (hf:∀j,j<cs.length→w.frozen? ⟨b,o+j,none⟩=false) (h1:∀v∈cs,v.oneCell'=true):
 (Builtin.copy_ #[dT,sT] ty #[.slice (some ⟨b,o,none⟩) dLen dCap,.slice (some a) sLen sCap]).run P w=.ok (goInt (Nat.min sLen dLen)) (w.setCells b o cs):=by
 have hl:=run_loadCells_list (P:=P) w a cs hsrc
 have hst:=run_storeCells_cells (P:=P) b o cs 0 w (by simpa using hc) (by simpa using hf) h1
 cases hq:P.info? elem with
 |none=>simp[hq] at hs
 |some i=>
  have hi:i.size=k:=by simpa [hq] using hs
  simp only[Nat.add_zero] at hst
  simp[Builtin.copy_,run_underlying hu,Builtin.lenOf,Builtin.firstCells,sizeOf,typeInfo,hq,hi,←hn,hl,hst]
theorem ON(w:World){o:Oper}{a:Act}{K:Act→World→Prop}{Q:Exit→Act→World→Prop}(d s:Operand)(t t':TypeId)
 (ho:o.op=.call {callee:=.builtin .copy,args:=#[d,s],argTypes:=#[t,t']}) (v u:Value) (hd:a.eval d=v) (hs:a.eval s=u) {v':Value} {w':World}
 (hr:(Builtin.copy_ #[t,t'] o.type #[v,u]).run P w=.ok v' w') (h:K (a.put o.dst v') w'):o.wp P a w K Q:=by
 unfold Oper.wp execOp
 simp only[ho,resolve,invoke,builtin,Sem.run_bind,Sem.run_pure,Result.andThen_ok,List.map_toArray,List.map_cons,List.map_nil,hd,hs,hr]
 exact h
theorem zC(w:World){ops:Array Oper}{rest:List Oper}{o:Oper}{a:Act}{Q:Exit→Act→World→Prop}(hgd:o.guard=none)(d s:Operand)(t t':TypeId)
 (ho:o.op=.call {callee:=.builtin .copy,args:=#[d,s],argTypes:=#[t,t']}) (v u:Value) (hd:a.eval d=v) (hs:a.eval s=u) {v':Value} {w':World}
 (hr:(Builtin.copy_ #[t,t'] o.type #[v,u]).run P w=.ok v' w') (h:wpList P ops Q rest (a.put o.dst v') w'):wpList P ops Q (o::rest) a w:=
 wpList_plain hgd fun _ hK=>ON w d s t t' ho v u hd hs hr (hK _ _ h)
theorem oD{ops:Array Oper}{o:Oper}{a:Act}{w:World}{K:Act→World→Prop}{Q:Exit→Act→World→Prop}{E:Prop}
 (hg:o.guard=none) (d x:Operand) (dT sT:TypeId) (hop:o.op=Op.call {callee:=Callee.builtin Builtin.copy,args:=#[d,x],argTypes:=#[dT,sT]})
 (v u:Value) (hd:a.eval d=v) (hx:a.eval x=u) {v':Value} {w':World} (hr:(Builtin.copy_ #[dT,sT] o.type #[v,u]).run P w=.ok v' w') (hK:K (a.put o.dst v') w'):
 if Region.wanted o (yielded ops a.tmps)=true then Oper.wp P o a w K Q else E:=by
 have hw:Region.wanted o (yielded ops a.tmps)=true:=by simp[Region.wanted,hg]
 rw[if_pos hw]
 unfold Oper.wp
 simp[execOp,hop,resolve,invoke,builtin,hd,hx,hr,Result.andThen]
 exact hK
theorem RG(w:World)(t e ty:TypeId)(z:Value)(k:Nat)(ht:P.underlying t=some (.slice e))(hv:∀w,(zeroValue e).run P w=.ok z w)(hz:z.cells.size=k)(h1:∀i (h:i<z.cells.size),(z.cells[i]).oneCell'=true)(b o n c:Nat)(hn:0<n)(hc:∀j,j<n * k→(w.cell? ⟨b,o+j,none⟩).isSome=true)(hf:∀j,j<n * k→w.frozen? ⟨b,o+j,none⟩=false):
 ∃zs:List Value,zs.length=n * k∧(Builtin.clear_ #[t] ty #[.slice (some ⟨b,o,none⟩) n c]).run P w=.ok (.tuple #[]) (w.setCells b o zs):=by
 have hl:(Builtin.zeroCells z.cells n).toList.length=n * k:=by simp[Builtin.zeroCells,hz]
 refine⟨(Builtin.zeroCells z.cells n).toList,hl,?_⟩
 have hone:∀v∈(Builtin.zeroCells z.cells n).toList,v.oneCell'=true:=fun v hv'=>by
  simp only[Builtin.zeroCells,Array.toList_map,List.mem_map] at hv'
  obtain⟨i,hi,rfl⟩:=hv'
  have hpos:0<z.cells.size:=by
   rcases Nat.eq_zero_or_pos z.cells.size with h0|h0
   ·rw[h0] at hi;simp at hi
   ·exact h0
  have hlt:=Nat.mod_lt i hpos
  rw[getElem!_pos z.cells (i % z.cells.size) hlt]
  exact h1 _ hlt
 have hst:=run_storeCells_cells (P:=P) b o (Builtin.zeroCells z.cells n).toList 0 w (fun j hj=>by rw[Nat.add_zero];exact hc j (by omega)) (fun j hj=>by rw[Nat.add_zero];exact hf j (by omega)) hone
 simp only[Nat.add_zero] at hst
 obtain⟨m,rfl⟩:∃m,n=m+1:=⟨n - 1,by omega⟩
 simp[Builtin.clear_,run_underlying ht,hv,hst]
theorem rE(w:World){ops:Array Oper}{rest:List Oper}{o:Oper}{a:Act}{Q:Exit→Act→World→Prop}(hgd:o.guard=none)(d:Operand)(t:TypeId)
 (ho:o.op=.call {callee:=.builtin .clear,args:=#[d],argTypes:=#[t]}) (v:Value) (hd:a.eval d=v) {v':Value} {w':World}
 (hr:(Builtin.clear_ #[t] o.type #[v]).run P w=.ok v' w') (h:wpList P ops Q rest (a.put o.dst v') w'):wpList P ops Q (o::rest) a w:=by
 refine wpList_plain hgd fun K hK=>?_
 unfold Oper.wp execOp
 simp only[ho,resolve,invoke,builtin,Sem.run_bind,Sem.run_pure,Result.andThen_ok,List.map_toArray,List.map_cons,List.map_nil,hd,hr]
 exact hK _ _ h
structure RowB(w:World)(B:Nat)(T k:Nat)(g cap n:Nat)(cur:Array Value)(xs:List Value):Prop where
 hB:B≤g
 blk:w.heap[g]?=some (.cells cur T (0,0))
 le:n≤cap
 mx:cap≤maxLen
 sz:cur.size=cap * k
 is:cur.toList.take (n * k)=xs
 len:xs.length=n * k
theorem UK{w:World}{B T k n:Nat}{v:Value}{xs:List Value}(h:w.ownsRow B T k v n xs)(hn:0<n):∃g cap cur,v=.slice (some ⟨g,0,none⟩) n cap∧RowB w B T k g cap n cur xs:=by
 rcases h.2 with ⟨_,h0⟩|⟨g,cap,cur,e,h1,h2,h3,h4,h5,h6⟩
 ·omega
 ·exact⟨g,cap,cur,e,h1,h2,h3,h4,h5,h6,h.1⟩
theorem RowB.row{w:World}{B T k g cap n:Nat}{cur:Array Value}{xs:List Value}(h:RowB w B T k g cap n cur xs):w.ownsRow B T k (.slice (some ⟨g,0,none⟩) n cap) n xs:=⟨h.len,.inr ⟨g,cap,cur,rfl,h.hB,h.blk,h.le,h.mx,h.sz,h.is⟩⟩
theorem RowB.lt{w:World}{B T k g cap n:Nat}{cur:Array Value}{xs:List Value}(h:RowB w B T k g cap n cur xs):g<w.heap.size:=(Array.getElem?_eq_some_iff.1 h.blk).1
theorem RowB.cell{w:World}{B T k g cap n:Nat}{cur:Array Value}{xs:List Value}(h:RowB w B T k g cap n cur xs){j:Nat}{v:Value}(hj:xs[j]?=some v):w.cell? ⟨g,j,none⟩=some v:=by
 have hlt:=(List.getElem?_eq_some_iff.1 hj).1
 rw[←h.is,List.getElem?_take,if_pos (by rw[h.len] at hlt;exact hlt)] at hj
 simp only[World.cell?,h.blk]
 simpa using hj
theorem RowB.some'{w:World}{B T k g cap n:Nat}{cur:Array Value}{xs:List Value}(h:RowB w B T k g cap n cur xs){j:Nat}(hj:j<cap * k):(w.cell? ⟨g,j,none⟩).isSome=true:=by
 simp only[World.cell?,h.blk]
 have:j<cur.size:=by rw[h.sz];exact hj
 simp[this]
theorem RowB.frozen{w:World}{B T k g cap n:Nat}{cur:Array Value}{xs:List Value}(h:RowB w B T k g cap n cur xs)(j:Nat):w.frozen? ⟨g,j,none⟩=false:=by
 simp[World.frozen?,h.blk]
theorem RowB.set{w:World}{B T k g cap n:Nat}{cur:Array Value}{xs:List Value}(h:RowB w B T k g cap n cur xs)(o:Nat)(vs:List Value)(ho:o+vs.length≤cap * k){m:Nat}(hm:m≤cap){ys:List Value}(hy:(cur.toList.take o++vs++cur.toList.drop (o+vs.length)).take (m * k)=ys)(hl:ys.length=m * k):∃cur',RowB (w.setCells g o vs) B T k g cap m cur' ys∧cur'.toList=cur.toList.take o++vs++cur.toList.drop (o+vs.length):=by
 obtain⟨cur',h1,h2,h3⟩:=PF g T (0,0) vs o w cur h.blk (by rw[h.sz];exact ho)
 exact⟨cur',⟨h.hB,h1,hm,h.mx,by rw[h2,h.sz],by rw[h3];exact hy,hl⟩,h3⟩
theorem eC{w w':World}{g:Nat}(h:w.grownBy w' (some g))(o:Nat)(vs:List Value):w.grownBy (w'.setCells g o vs) (some g):=by
 obtain⟨h1,h2,h3,h4⟩:=vA g vs o w'
 exact⟨h1.trans h.os,h2.trans h.tape,h3.trans h.output,by rw[h4];exact h.size,fun k hk hne=>(gB g vs o w' k (fun e=>hne (by rw[e]))).trans (h.block k hk hne)⟩
theorem CD(w:World)(row:Option Nat):w.grownBy w row:=⟨rfl,rfl,rfl,nR _,fun _ _ _=>rfl⟩
theorem BD{w w':World}{row:Option Nat}(h:w.grownBy w' row):w.grownBy w'.drew row:=⟨h.os,h.tape,h.output,h.size,h.block⟩
end Go.Proofs.YtpbolcjcmkmalaaGreatDoor

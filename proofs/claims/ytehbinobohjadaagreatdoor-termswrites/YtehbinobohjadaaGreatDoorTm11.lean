import Derived.Test.YtehbinobohjadaaGreatDoorTm00
import Derived.Test.YtehbinobohjadaaGreatDoorTm08
import Derived.Test.YtehbinobohjadaaGreatDoorTm09
import Derived.Test.YtehbinobohjadaaGreatDoorTm03
import Derived.Deep.RegionLaw
import Derived.Deep.DeepCutAuto
import Derived.Lib.Bytes
import Derived.Test.YtehbinobohjadaaGreatDoorRows
import Derived.Test.YtehbinobohjadaaGreatDoorTm10
import Derived.ProofKit
import Derived.LaidMore
import Derived.OpenShut
import Derived.Stop.Joined
import Derived.SevenTiedAt
import Derived.WideLaws
import Derived.ChangeSlices
import Derived.ChangeSame
import Derived.Carry
set_option maxHeartbeats 20000000
set_option maxRecDepth 20000
namespace Go.Proofs.YtehbinobohjadaaGreatDoor
open Go.RowKit Go.Extern.Stop Go.Stop Go.Extern
theorem EE{L:List Tok}{s:ByteArray}{k n k' n':Nat}{x:Unit}(h:bB L s k n=.ok x k' n'):n'=n:=by
 unfold bB at h
 split at h
 ·injection h with _ _ h;exact h.symm
 ·cases h
theorem QF{L:List Tok}{k n k' n':Nat}{x:ByteArray}(h:oB L k n=.ok x k' n'):n'=n:=by
 unfold oB at h
 split at h
 ·injection h with _ _ h;exact h.symm
 ·cases h
theorem LJ{L:List Tok}{k n k' n':Nat}{x:Nat}(h:cC L k n=.ok x k' n'):n'=n:=by
 unfold cC at h
 split at h
 ·injection h with _ _ h;exact h.symm
 ·cases h
theorem eT{L:List Tok}{k n k' n':Nat}{x:Nat}(h:XE L k n=.ok x k' n'):n'=n:=by
 unfold XE at h
 obtain⟨_,_,_,h1,h⟩:=PR.bind_eq h
 obtain⟨_,_,_,h2,h⟩:=PR.bind_eq h
 split at h
 ·injection h with _ _ h;rw[←h,EE h2,LJ h1]
 ·cases h
theorem yD{L:List Tok}{k n k' n':Nat}{x:ByteArray}(h:TB L k n=.ok x k' n'):n'=n+1:=by
 unfold TB at h
 split at h
 ·cases h
 ·injection h with _ _ h;exact h.symm
theorem EH{L:List Tok}{s:ByteArray}{k n k' n':Nat}{x:Unit}(h:dC L s k n=.ok x k' n'):n'=n - 1:=by
 unfold dC at h
 obtain⟨_,_,_,h1,h⟩:=PR.bind_eq h
 injection h with _ _ h;rw[←h,EE h1]
theorem VR{L:List Tok}{k n k' n':Nat}{x:Nd}(h:JD L k n=.ok x k' n'):n'=n:=by
 unfold JD at h
 obtain⟨_,_,_,h1,h⟩:=PR.bind_eq h
 obtain⟨_,_,_,h2,h⟩:=PR.bind_eq h
 obtain⟨_,_,_,h3,h⟩:=PR.bind_eq h
 injection h with _ _ h;rw[←h,QF h3,EE h2,QF h1]
structure SameNQ(L:List Tok)(f:Nat):Prop where
 ei:∀k n x k' n',FA L f k n=.ok x k' n'→n'=n
 ol:∀y k n x k' n',zB L f y k n=.ok x k' n'→n'=n
 bo:∀k n x k' n',iC L f k n=.ok x k' n'→n'=n
 al:∀y k n x k' n',WA L f y k n=.ok x k' n'→n'=n
 un:∀k n x k' n',QA L f k n=.ok x k' n'→n'=n
 te:∀k n x k' n',BC L f k n=.ok x k' n'→n'=n
 ot:∀k n x k' n',iB L f k n=.ok x k' n'→n'=n
 co:∀k n x k' n',DC L f k n=.ok x k' n'→n'=n
 su:∀k n x k' n',GC L f k n=.ok x k' n'→n'=n
 sl:∀y k n x k' n',UA L f y k n=.ok x k' n'→n'=n
 pa:∀k n x k' n',fC L f k n=.ok x k' n'→n'=n
 pl:∀y k n x k' n',IA L f y k n=.ok x k' n'→n'=n
 fa:∀k n x k' n',mB L f k n=.ok x k' n'→n'=n
 gr:∀k n x k' n',KB L f k n=.ok x k' n'→n'=n
theorem YF(L:List Tok):∀f,SameNQ L f
 |0=>by
  constructor<;>intros<;>rename_i h<;>simp only[FA,zB,iC,WA,QA,BC,iB,DC,GC,UA,fC,IA,mB,KB] at h<;>cases h
 |f+1=>by
  have ih:=YF L f
  constructor
  ·intro k n x k' n' h
   rw[FA] at h
   obtain⟨_,_,_,h1,h2⟩:=PR.bind_eq h
   rw[ih.ol _ _ _ _ _ _ h2,ih.bo _ _ _ _ _ h1]
  ·intro y k n x k' n' h
   rw[zB] at h
   split at h
   ·obtain⟨_,_,_,h3,h4⟩:=PR.bind_eq h
    rw[ih.ol _ _ _ _ _ _ h4,ih.bo _ _ _ _ _ h3]
   ·injection h with _ _ h;exact h.symm
  ·intro k n x k' n' h
   rw[iC] at h
   obtain⟨_,_,_,h1,h2⟩:=PR.bind_eq h
   rw[ih.al _ _ _ _ _ _ h2,ih.un _ _ _ _ _ h1]
  ·intro y k n x k' n' h
   rw[WA] at h
   split at h
   ·obtain⟨_,_,_,h3,h4⟩:=PR.bind_eq h
    rw[ih.al _ _ _ _ _ _ h4,ih.un _ _ _ _ _ h3]
   ·injection h with _ _ h;exact h.symm
  ·intro k n x k' n' h
   rw[QA] at h
   split at h
   ·obtain⟨_,_,_,h1,h⟩:=PR.bind_eq h
    obtain⟨_,_,_,h2,h⟩:=PR.bind_eq h
    injection h with _ _ h
    have:=yD h1;have:=ih.un _ _ _ _ _ h2
    omega
   ·exact ih.te _ _ _ _ _ h
  ·intro k n x k' n' h
   rw[BC] at h
   split at h
   ·obtain⟨_,_,_,h1,h⟩:=PR.bind_eq h
    obtain⟨_,_,_,h2,h⟩:=PR.bind_eq h
    obtain⟨_,_,_,h3,h⟩:=PR.bind_eq h
    injection h with _ _ h
    have:=yD h1;have:=ih.ei _ _ _ _ _ h2;have:=EH h3
    omega
   ·split at h
    ·exact ih.ot _ _ _ _ _ h
    ·split at h
     ·obtain⟨_,_,_,h1,h⟩:=PR.bind_eq h
      injection h with _ _ h;rw[←h,QF h1]
     ·exact ih.co _ _ _ _ _ h
  ·intro k n x k' n' h
   rw[iB] at h
   obtain⟨_,_,_,h1,h⟩:=PR.bind_eq h
   obtain⟨_,_,_,h2,h⟩:=PR.bind_eq h
   obtain⟨_,_,_,h3,h⟩:=PR.bind_eq h
   obtain⟨_,_,_,h4,h⟩:=PR.bind_eq h
   obtain⟨_,_,_,h5,h⟩:=PR.bind_eq h
   injection h with _ _ h
   have:=yD h1;have:=QF h2;have:=EE h3;have:=ih.ei _ _ _ _ _ h4;have:=EH h5
   omega
  ·intro k n x k' n' h
   rw[DC] at h
   obtain⟨_,_,_,h1,h⟩:=PR.bind_eq h
   split at h
   ·obtain⟨_,_,_,h2,h⟩:=PR.bind_eq h
    injection h with _ _ h
    rw[←h,ih.su _ _ _ _ _ h2,ih.su _ _ _ _ _ h1]
   ·cases h
  ·intro k n x k' n' h
   rw[GC] at h
   obtain⟨_,_,_,h1,h2⟩:=PR.bind_eq h
   rw[ih.sl _ _ _ _ _ _ h2,ih.pa _ _ _ _ _ h1]
  ·intro y k n x k' n' h
   rw[UA] at h
   split at h
   ·obtain⟨_,_,_,h3,h4⟩:=PR.bind_eq h
    rw[ih.sl _ _ _ _ _ _ h4,ih.pa _ _ _ _ _ h3]
   ·injection h with _ _ h;exact h.symm
  ·intro k n x k' n' h
   rw[fC] at h
   obtain⟨_,_,_,h1,h2⟩:=PR.bind_eq h
   rw[ih.pl _ _ _ _ _ _ h2,ih.fa _ _ _ _ _ h1]
  ·intro y k n x k' n' h
   rw[IA] at h
   split at h
   ·obtain⟨_,_,_,h3,h4⟩:=PR.bind_eq h
    rw[ih.pl _ _ _ _ _ _ h4,eT h3]
   ·injection h with _ _ h;exact h.symm
  ·intro k n x k' n' h
   rw[mB] at h
   split at h
   ·obtain⟨_,_,_,h1,h⟩:=PR.bind_eq h
    injection h with _ _ h;rw[←h,LJ h1]
   ·split at h
    ·obtain⟨_,_,_,h1,h⟩:=PR.bind_eq h
     injection h with _ _ h;rw[←h,QF h1]
    ·split at h
     ·exact VR h
     ·split at h
      ·exact ih.gr _ _ _ _ _ h
      ·split at h
       ·obtain⟨_,_,_,h1,h⟩:=PR.bind_eq h
        obtain⟨_,_,_,h2,h⟩:=PR.bind_eq h
        obtain⟨_,_,_,h3,h⟩:=PR.bind_eq h
        injection h with _ _ h
        have:=yD h1;have:=ih.su _ _ _ _ _ h2;have:=EH h3
        omega
       ·obtain⟨_,_,_,h1,h⟩:=PR.bind_eq h
        injection h with _ _ h;rw[←h,QF h1]
  ·intro k n x k' n' h
   rw[KB] at h
   obtain⟨_,_,_,h1,h⟩:=PR.bind_eq h
   obtain⟨_,_,_,h2,h⟩:=PR.bind_eq h
   obtain⟨_,_,_,h3,h⟩:=PR.bind_eq h
   obtain⟨_,_,_,h4,h⟩:=PR.bind_eq h
   obtain⟨_,_,_,h5,h⟩:=PR.bind_eq h
   obtain⟨_,_,_,h6,h⟩:=PR.bind_eq h
   injection h with _ _ h
   have:=yD h1;have:=EE h2;have:=ih.su _ _ _ _ _ h3;have:=EE h4;have:=ih.su _ _ _ _ _ h5;have:=EH h6
   omega
theorem eD{P:Program}{ops:Array Oper}{o:Oper}{a:Act}{w:World}{K:Act→World→Prop}{Q:Exit→Act→World→Prop}{E:Prop}
 (hgd:o.guard=none) (s x:Operand) (t:TypeId) (ho:o.op=Op.call {callee:=Callee.builtin Builtin.append,args:=#[s,x],argTypes:=#[t,t]})
 (B:Nat) (e:TypeId) (i:TypeInfo) (z:Value) (size bytes:Nat) (ht:P.underlying t=some (.slice e)) (hi:P.info? e=some i) (hz:i.zero=some z) (hsize:i.size=size) (hby:i.bytes=bytes) (hzs:z.cells.size=size) (hsz:0<size)
 (v:Value) (n:Nat) (xs:List Value) (hs:a.eval s=v) (hown:w.ownsRow B e size v n xs)
 (ad:Addr) (m c:Nat) (news:List Value) (hx:a.eval x=.slice (some ad) m c) (hl:news.length=m * size) (hnews:∀j u,news[j]?=some u→w.cell? (ad.add j)=some u) (h1:∀u∈news,u.oneCell'=true) (hm:0<m)
 (h63:n+m≤maxLen) (hbytes:(n+m) * bytes≤140737488355328) (hbase:B≤w.heap.size)
 (hK:∀v' w',w'.ownsRow B e size v' (n+m) (xs++news)→w.grownBy w' v.ownBlock→(v'.ownBlock=v.ownBlock∨v'.ownBlock=some w.heap.size)→K (a.put o.dst v') w'):
 if Region.wanted o (yielded ops a.tmps)=true then Oper.wp P o a w K Q else E:=by
 have hw:Region.wanted o (yielded ops a.tmps)=true:=by simp[Region.wanted,hgd]
 rw[if_pos hw]
 obtain⟨v',w',hr,h2,h3,h4⟩:=run_append_own (P:=P) w B t o.type e i z size bytes ht hi hz hsize hby hzs hsz v n xs hown ad m c news hl hnews h1 h63 hbytes hbase
 have h5:=qH (P:=P) w B t o.type e i z size bytes ht hi hz hsize hby v n xs hown ad m c news hl hnews h1 hm h63 hbytes v' w' hr
 unfold Oper.wp
 simp[execOp,ho,resolve,invoke,builtin,hs,hx,hr,Result.andThen]
 exact hK v' w' h2 h3 h5
def set4(w:World)(g o:Nat)(x:Nat→Value):World:=(((w.setCell ⟨g,o,none⟩ (x 0)).setCell ⟨g,o+1,none⟩ (x 1)).setCell ⟨g,o+2,none⟩ (x 2)).setCell ⟨g,o+3,none⟩ (x 3)
theorem PR.bind_okE{α β:Type}{r:PR α}{f:α→Nat→Nat→PR β}{y:β}{k n:Nat}(h:r.bind f=.ok y k n):∃x k1 n1,r=.ok x k1 n1∧f x k1 n1=.ok y k n:=by
 cases r with
 |out=>cases h
 |bad c a=>cases h
 |ok x k1 n1=>exact⟨x,k1,n1,rfl,h⟩
structure GoodL(L:List Tok):Prop where
 nx:∀k,k<L.length→(cA L k).kind≠.e→k+1<L.length
 tx:∀k,(cA L k).kind=.e→(cA L k).text.toList=[]
 nb:∀k,(cA L k).kind≠.b
 fw:∀k,(cA L k).kind=.w→∃c r,(cA L k).text.toList=c::r∧PB c=true
 fn:∀k,(cA L k).kind=.n→∃c r,(cA L k).text.toList=c::r∧lA c=true
theorem fN{L:List Tok}{k:Nat}(h:(cA L k).text.toList≠[]):k<L.length:=by
 rcases Nat.lt_or_ge k L.length with q|q
 ·exact q
 ·exfalso
  apply h
  unfold cA
  rw[List.getElem?_eq_none q]
  show (ByteArray.toList ⟨#[]⟩)=[]
  rw[Lib.toList_data]
theorem GoodL.step{L:List Tok}(h:GoodL L){k:Nat}(n:Nat)(ht:(cA L k).text.toList≠[]):pA L k n=.ok () (k+1) n:=by
 have h1:=fN ht
 have h2:(cA L k).kind≠.e:=fun e=>ht (h.tx k e)
 have h3:=h.nx k h1 h2
 have h4:jF L k=k+1:=by unfold jF;rw[if_pos h3]
 unfold pA
 rw[h4,if_neg (h.nb _)]
theorem oC{L:List Tok}{s:ByteArray}{k:Nat}(h:YB L s k=true):(cA L k).text.toList=s.toList:=by
 unfold YB vA at h
 simpa using h
theorem GoodL.is{L:List Tok}(h:GoodL L){s:ByteArray}(hs:s.toList≠[])(k:Nat):qK L s k=YB L s k:=by
 unfold qK
 cases hq:YB L s k
 ·unfold YB at hq;rw[hq];simp
 ·have h1:(cA L k).kind≠.e:=fun e=>hs (by rw[←oC hq];exact h.tx k e)
  unfold YB at hq
  rw[hq,decide_eq_true h1];rfl
theorem GoodL.need{L:List Tok}(h:GoodL L){s:ByteArray}(hs:s.toList≠[]){k n k' n':Nat}{x:Unit}(e:bB L s k n=.ok x k' n')(m:Nat):oA L s k m=.ok () (k+1) m∧k'=k+1∧n'=n:=by
 unfold bB at e
 split at e
 ·rename_i hq
  injection e with _ e1 e2
  unfold oA
  rw[h.is hs,if_pos hq]
  exact⟨h.step m (by rw[oC hq];exact hs),e1.symm,e2.symm⟩
 ·cases e
theorem GoodL.take{L:List Tok}(h:GoodL L){s:ByteArray}(hs:s.toList≠[])(k n:Nat):yB L s k n=if YB L s k=true then .ok true (k+1) n else .ok false k n:=by
 unfold yB
 rw[h.is hs]
 by_cases hq:YB L s k=true
 ·rw[if_pos hq,if_pos hq,h.step n (by rw[oC hq];exact hs)];rfl
 ·rw[if_neg hq,if_neg hq]
theorem GoodL.word{L:List Tok}(h:GoodL L){k:Nat}(hk:(cA L k).kind=.w):(cA L k).text.toList≠[]:=by
 obtain⟨c,r,e,_⟩:=h.fw k hk
 rw[e];simp
theorem GoodL.name{L:List Tok}(h:GoodL L){k n k' n':Nat}{x:ByteArray}(e:oB L k n=.ok x k' n'):uB L k n=.ok x k' n'∧k'=k+1∧n'=n∧x=(cA L k).text:=by
 unfold oB at e
 split at e
 ·rename_i hq
  injection e with e0 e1 e2
  have h1:=hq.1
  unfold dD at h1
  simp at h1
  have h5:uB L k n=.ok x k' n':=by
   unfold uB
   rw[if_pos ⟨h1.1,h1.2⟩,h.step n (h.word h1.1),PR.bind_ok,e0,e1,e2]
  exact⟨h5,e1.symm,e2.symm,e0.symm⟩
 ·cases e
theorem GoodL.sign{L:List Tok}(h:GoodL L){k:Nat}{c:UInt8}{r:List UInt8}(e:(cA L k).text.toList=c::r)(h1:PB c=false)(h2:lA c=false):(cA L k).kind=.s:=by
 cases hk:(cA L k).kind with
 |w=>obtain⟨d,r',e',hd⟩:=h.fw k hk;rw[e] at e';injection e' with e1 _;rw[←e1,h1] at hd;cases hd
 |n=>obtain⟨d,r',e',hd⟩:=h.fn k hk;rw[e] at e';injection e' with e1 _;rw[←e1,h2] at hd;cases hd
 |s=>rfl
 |e=>rw[h.tx k hk] at e;cases e
 |b=>exact absurd hk (h.nb k)
theorem PH(c:UInt8):(sg c).toList=[c]:=by unfold sg;rw[Lib.toList_data]
theorem OA(c:UInt8):(sg c).toList≠[]:=by rw[PH];simp
theorem GoodL.sg{L:List Tok}(h:GoodL L){k:Nat}{c:UInt8}(e:YB L (sg c) k=true)(h1:PB c=false)(h2:lA c=false):(cA L k).kind=.s:=h.sign (by rw[oC e,PH]) h1 h2
theorem TO{s:ByteArray}(h:(iA ordersW s).isSome=true):∃c r,s.toList=c::r∧PB c=false∧lA c=false:=by
 unfold iA at h
 rw[List.findIdx?_isSome] at h
 simp only[ordersW,List.any_cons,List.any_nil,Bool.or_false,Bool.or_eq_true,vA,beq_iff_eq] at h
 rcases h with h|h|h|h|h|h
 ·exact⟨60,[],by rw[←h,PH],by decide,by decide⟩
 ·exact⟨60,[61],by rw[←h];unfold mT;rw[Lib.toList_data],by decide,by decide⟩
 ·exact⟨61,[],by rw[←h,PH],by decide,by decide⟩
 ·exact⟨60,[62],by rw[←h];unfold mT;rw[Lib.toList_data],by decide,by decide⟩
 ·exact⟨62,[61],by rw[←h];unfold mT;rw[Lib.toList_data],by decide,by decide⟩
 ·exact⟨62,[],by rw[←h,PH],by decide,by decide⟩
structure Agr(L:List Tok)(f:Nat):Prop where
 eith:∀g k n x k' n',f+8≤g→FA L f k n=.ok x k' n'→zA L g k n=.ok x k' n'
 orL:∀g y k n x k' n',f+8≤g→zB L f y k n=.ok x k' n'→sC L g y k n=.ok x k' n'
 both:∀g k n x k' n',f+8≤g→iC L f k n=.ok x k' n'→cD L g k n=.ok x k' n'
 andL:∀g y k n x k' n',f+8≤g→WA L f y k n=.ok x k' n'→RB L g y k n=.ok x k' n'
 unl:∀g k n x k' n',f+8≤g→QA L f k n=.ok x k' n'→lB L g k n=.ok x k' n'
 test:∀g k n x k' n',f+8≤g→BC L f k n=.ok x k' n'→XD L g k n=.ok x k' n'
 sum:∀g k n x k' n',f+8≤g→GC L f k n=.ok x k' n'→IB L g k n=.ok x k' n'
 sumL:∀g y k n x k' n',f+8≤g→UA L f y k n=.ok x k' n'→FB L g y k n=.ok x k' n'
 part:∀g k n x k' n',f+8≤g→fC L f k n=.ok x k' n'→FC L g k n=.ok x k' n'
 partL:∀g y k n x k' n',f+8≤g→IA L f y k n=.ok x k' n'→cB L g y k n=.ok x k' n'
 fac:∀g k n x k' n',f+8≤g→mB L f k n=.ok x k' n'→LB L g k n=.ok x k' n'
theorem dS:wOr.toList≠[]:=by unfold wOr;rw[Lib.toList_data];simp
theorem oO:wAnd.toList≠[]:=by unfold wAnd;rw[Lib.toList_data];simp
theorem NG:wNot.toList≠[]:=by unfold wNot;rw[Lib.toList_data];simp
theorem oM:wSome.toList≠[]:=by unfold wSome;rw[Lib.toList_data];simp
theorem XJ:wEvery.toList≠[]:=by unfold wEvery;rw[Lib.toList_data];simp
theorem qP:wCount.toList≠[]:=by unfold wCount;rw[Lib.toList_data];simp
theorem rP:wTotal.toList≠[]:=by unfold wTotal;rw[Lib.toList_data];simp
theorem pN:wOf.toList≠[]:=by unfold wOf;rw[Lib.toList_data];simp
theorem qO:wMax.toList≠[]:=by unfold wMax;rw[Lib.toList_data];simp
theorem rO:wMin.toList≠[]:=by unfold wMin;rw[Lib.toList_data];simp
theorem GoodL.enter{L:List Tok}(h:GoodL L){k n k' n':Nat}{d:ByteArray}(ht:(cA L k).text.toList≠[])(e:TB L k n=.ok d k' n'):qA L k n=.ok () k (n+1)∧pA L k (n+1)=.ok () (k+1) (n+1)∧d=(cA L k).text∧k'=k+1∧n'=n+1:=by
 unfold TB at e
 split at e
 ·cases e
 ·rename_i hn
  injection e with e0 e1 e2
  unfold qA
  rw[if_neg hn]
  exact⟨rfl,h.step _ ht,e0.symm,e1.symm,e2.symm⟩
theorem GoodL.leave{L:List Tok}(h:GoodL L){s:ByteArray}(hs:s.toList≠[]){k n k' n':Nat}{x:Unit}(e:dC L s k n=.ok x k' n'):oA L s k (n - 1)=.ok () (k+1) (n - 1)∧k'=k+1∧n'=n - 1:=by
 unfold dC at e
 obtain⟨_,k1,n1,e1,e2⟩:=PR.bind_okE e
 obtain⟨_,rfl,rfl⟩:=h.need hs e1 0
 injection e2 with _ e3 e4
 exact⟨(h.need hs e1 (n1 - 1)).1,e3.symm,e4.symm⟩
theorem q1{L:List Tok}{s:ByteArray}{k:Nat}(h:YB L s k=true):vA (cA L k).text s=true:=h
theorem q0{L:List Tok}{s:ByteArray}{k:Nat}(h:¬YB L s k=true):¬vA (cA L k).text s=true:=h
theorem q2{L:List Tok}{s t:ByteArray}{k:Nat}(h:YB L s k=true∨YB L t k=true):vA (cA L k).text s=true∨vA (cA L k).text t=true:=h
theorem q3{L:List Tok}{s t:ByteArray}{k:Nat}(h:¬(YB L s k=true∨YB L t k=true)):¬(vA (cA L k).text s=true∨vA (cA L k).text t=true):=h
theorem YE{f g:Nat}(h:f+1+8≤g):∃g',g=g'+1∧f+8≤g':=⟨g - 1,by omega,by omega⟩
theorem FP{L:List Tok}(h:GoodL L)(f:Nat)(ih:∀f',f'≤f→Agr L f'):Agr L (f+1):=by
 have A:=ih f (nR f)
 refine⟨?_,?_,?_,?_,?_,?_,?_,?_,?_,?_,?_⟩
 ·intro g k n x k' n' hg e
  obtain⟨g',rfl,hg'⟩:=YE hg
  rw[FA] at e
  obtain⟨y,k1,n1,e1,e2⟩:=PR.bind_okE e
  rw[zA,A.both g' _ _ _ _ _ hg' e1,PR.bind_ok]
  exact A.orL g' _ _ _ _ _ _ hg' e2
 ·intro g y k n x k' n' hg e
  obtain⟨g',rfl,hg'⟩:=YE hg
  rw[zB] at e
  rw[sC,h.take dS]
  split at e
  ·rename_i hq
   obtain⟨m,k1,n1,e1,e2⟩:=PR.bind_okE e
   rw[if_pos hq,PR.bind_ok,if_pos rfl,A.both g' _ _ _ _ _ hg' e1,PR.bind_ok]
   exact A.orL g' _ _ _ _ _ _ hg' e2
  ·rename_i hq
   rw[if_neg hq,PR.bind_ok,if_neg (by simp)]
   exact e
 ·intro g k n x k' n' hg e
  obtain⟨g',rfl,hg'⟩:=YE hg
  rw[iC] at e
  obtain⟨y,k1,n1,e1,e2⟩:=PR.bind_okE e
  rw[cD,A.unl g' _ _ _ _ _ hg' e1,PR.bind_ok]
  exact A.andL g' _ _ _ _ _ _ hg' e2
 ·intro g y k n x k' n' hg e
  obtain⟨g',rfl,hg'⟩:=YE hg
  rw[WA] at e
  rw[RB,h.take oO]
  split at e
  ·rename_i hq
   obtain⟨m,k1,n1,e1,e2⟩:=PR.bind_okE e
   rw[if_pos hq,PR.bind_ok,if_pos rfl,A.unl g' _ _ _ _ _ hg' e1,PR.bind_ok]
   exact A.andL g' _ _ _ _ _ _ hg' e2
  ·rename_i hq
   rw[if_neg hq,PR.bind_ok,if_neg (by simp)]
   exact e
 ·intro g k n x k' n' hg e
  obtain⟨g',rfl,hg'⟩:=YE hg
  rw[QA] at e
  rw[lB,h.is NG]
  split at e
  ·rename_i hq
   obtain⟨d,k1,n1,e1,e2⟩:=PR.bind_okE e
   obtain⟨d1,d2,rfl,rfl,rfl⟩:=h.enter (by rw[oC hq];exact NG) e1
   obtain⟨m,k2,n2,e3,e4⟩:=PR.bind_okE e2
   rw[if_pos hq,d1,PR.bind_ok,d2,PR.bind_ok,A.unl g' _ _ _ _ _ hg' e3,PR.bind_ok]
   exact e4
  ·rename_i hq
   rw[if_neg hq]
   exact A.test g' _ _ _ _ _ hg' e
 ·intro g k n x k' n' hg e
  obtain⟨g',rfl,hg'⟩:=YE hg
  rw[BC] at e
  rw[XD]
  split at e
  ·rename_i hq
   obtain⟨d,k1,n1,e1,e2⟩:=PR.bind_okE e
   obtain⟨d1,d2,rfl,rfl,rfl⟩:=h.enter (by rw[oC hq];exact OA _) e1
   obtain⟨m,k2,n2,e3,e4⟩:=PR.bind_okE e2
   obtain⟨u,k3,n3,e5,e6⟩:=PR.bind_okE e4
   obtain⟨d3,rfl,rfl⟩:=h.leave (OA _) e5
   rw[if_pos (q1 hq),d1,PR.bind_ok,d2,PR.bind_ok,A.eith g' _ _ _ _ _ hg' e3,PR.bind_ok,d3,PR.bind_ok]
   exact e6
  ·rename_i hq1
   rw[if_neg (q0 hq1)]
   split at e
   ·rename_i hq2
    have ht:(cA L k).text.toList≠[]:=by
     rcases hq2 with q|q
     ·rw[oC q];exact oM
     ·rw[oC q];exact XJ
    match f,e,ih,A,hg' with
    |0,e,_,_,_=>rw[iB] at e;cases e
    |f'+1,e,ih,_,hg'=>
     have A':=ih f' (by omega)
     rw[iB] at e
     obtain⟨d,k1,n1,e1,e2⟩:=PR.bind_okE e
     obtain⟨d1,d2,rfl,rfl,rfl⟩:=h.enter ht e1
     obtain⟨wn,k2,n2,e3,e4⟩:=PR.bind_okE e2
     obtain⟨d3,rfl,rfl,rfl⟩:=h.name e3
     obtain⟨u,k3,n3,e5,e6⟩:=PR.bind_okE e4
     obtain⟨_,rfl,rfl⟩:=h.need (OA _) e5 0
     have d4:=(h.need (OA _) e5 (n+1)).1
     obtain⟨m,k4,n4,e7,e8⟩:=PR.bind_okE e6
     obtain⟨u2,k5,n5,e9,e10⟩:=PR.bind_okE e8
     obtain⟨d5,rfl,rfl⟩:=h.leave (OA _) e9
     rw[if_pos (q2 hq2),d1,PR.bind_ok,d2,PR.bind_ok,d3,PR.bind_ok,d4,PR.bind_ok,A'.eith g' _ _ _ _ _ (by omega) e7,PR.bind_ok,d5,PR.bind_ok]
     exact e10
   ·rename_i hq2
    rw[if_neg (q3 hq2)]
    split at e
    ·rename_i hal
     obtain⟨wn,k2,n2,e3,e4⟩:=PR.bind_okE e
     obtain⟨d3,rfl,rfl,rfl⟩:=h.name e3
     injection e4 with e5 e6 e7
     subst e5 e6 e7
     obtain⟨g2,rfl,_⟩:∃g2,g'=g2+1+1+1+1+1∧True:=⟨g' - 5,by omega,trivial⟩
     have hkw:(cA L k).kind=.w:=by unfold sF dD at hal;simp at hal;exact hal.1.1.1
     have hgr:iA gramW (cA L k).text=none:=by unfold sF dD at hal;simp at hal;exact hal.1.1.2
     have hno:iA ordersW (cA L (k+1)).text=none:=by unfold sF at hal;simp at hal;exact hal.1.2
     have hns:iA ZE (cA L (k+1)).text=none:=by unfold sF at hal;simp at hal;exact hal.2
     have hkn:¬(cA L k).kind=.n:=by rw[hkw];intro q;cases q
     have hng:∀s,s∈gramW→¬YB L s k=true:=fun s hs hq=>by
      have:=List.findIdx?_eq_none_iff.1 hgr s hs
      unfold YB vA at hq
      unfold vA at this
      simp at hq this
      exact this hq.symm
     have hnb:¬YB L (sg 91) k=true:=fun hq=>by
      have:=h.sg hq (by decide) (by decide)
      rw[hkw] at this;cases this
     have hsn:∀s,s∈ZE→¬YB L s (k+1)=true:=fun s hs hq=>by
      have:=List.findIdx?_eq_none_iff.1 hns s hs
      unfold YB vA at hq
      unfold vA at this
      simp at hq this
      exact this hq.symm
     have hfac:∀q,LB L (q+1) k n2=.ok (.mk qB (cA L k).text 0 []) (k+1) n2:=fun q=>by
      rw[LB]
      rw[if_neg hkn,if_neg (q0 (hng wCount (by simp[gramW]))),if_neg (q0 (hng wTotal (by simp[gramW]))),if_neg (q3 (fun q=>q.elim (hng wMax (by simp[gramW])) (hng wMin (by simp[gramW])))),if_neg (q0 hnb),d3]
      rfl
     have hpl:∀q,cB L (q+1) (.mk qB (cA L k).text 0 []) (k+1) n2=.ok (.mk qB (cA L k).text 0 []) (k+1) n2:=fun q=>by
      rw[cB,h.take (OA _),if_neg (hsn (sg 42) (by simp[ZE])),PR.bind_ok,if_neg (by simp)]
     have hsl:∀q,FB L (q+1) (.mk qB (cA L k).text 0 []) (k+1) n2=.ok (.mk qB (cA L k).text 0 []) (k+1) n2:=fun q=>by
      rw[FB]
      rw[if_neg (fun q=>q.2.elim (hsn (sg 43) (by simp[ZE])) (hsn (sg 45) (by simp[ZE])))]
     have hsum:IB L (g2+1+1+1+1+1) k n2=.ok (.mk qB (cA L k).text 0 []) (k+1) n2:=by
      rw[IB,FC,hfac,PR.bind_ok,hpl,PR.bind_ok,hsl]
     rw[hsum,PR.bind_ok,if_neg (fun q=>q.2 hno),if_pos ⟨by show vA qB qB=true;unfold vA;simp,by show vA (cA L k).text (cA L k).text=true;unfold vA;simp⟩]
    ·match f,e,ih,A,hg' with
     |0,e,_,_,_=>rw[DC] at e;cases e
     |f'+1,e,ih,_,hg'=>
      have A':=ih f' (by omega)
      rw[DC] at e
      obtain⟨a,k1,n1,e1,e2⟩:=PR.bind_okE e
      rw[A'.sum g' _ _ _ _ _ (by omega) e1,PR.bind_ok]
      split at e2
      ·rename_i ho
       obtain⟨c,r,e3,h3,h4⟩:=TO ho
       have hks:=h.sign e3 h3 h4
       have hpl:iA ordersW (cA L k1).text≠none:=by intro q;rw[q] at ho;cases ho
       obtain⟨b,k3,n3,e5,e6⟩:=PR.bind_okE e2
       rw[if_pos ⟨hks,hpl⟩,h.step _ (by rw[e3];simp),PR.bind_ok,A'.sum g' _ _ _ _ _ (by omega) e5,PR.bind_ok]
       exact e6
      ·cases e2
 ·intro g k n x k' n' hg e
  obtain⟨g',rfl,hg'⟩:=YE hg
  rw[GC] at e
  obtain⟨y,k1,n1,e1,e2⟩:=PR.bind_okE e
  rw[IB,A.part g' _ _ _ _ _ hg' e1,PR.bind_ok]
  exact A.sumL g' _ _ _ _ _ _ hg' e2
 ·intro g y k n x k' n' hg e
  obtain⟨g',rfl,hg'⟩:=YE hg
  rw[UA] at e
  rw[FB]
  split at e
  ·rename_i hq
   obtain⟨m,k1,n1,e1,e2⟩:=PR.bind_okE e
   have hks:(cA L k).kind=.s:=by
    rcases hq with q|q
    ·exact h.sg q (by decide) (by decide)
    ·exact h.sg q (by decide) (by decide)
   have ht:(cA L k).text.toList≠[]:=by
    rcases hq with q|q
    ·rw[oC q];exact OA _
    ·rw[oC q];exact OA _
   rw[if_pos ⟨hks,hq⟩,h.step _ ht,PR.bind_ok,A.part g' _ _ _ _ _ hg' e1,PR.bind_ok]
   exact A.sumL g' _ _ _ _ _ _ hg' e2
  ·rename_i hq
   rw[if_neg (fun q=>hq q.2)]
   exact e
 ·intro g k n x k' n' hg e
  obtain⟨g',rfl,hg'⟩:=YE hg
  rw[fC] at e
  obtain⟨y,k1,n1,e1,e2⟩:=PR.bind_okE e
  rw[FC,A.fac g' _ _ _ _ _ hg' e1,PR.bind_ok]
  exact A.partL g' _ _ _ _ _ _ hg' e2
 ·intro g y k n x k' n' hg e
  obtain⟨g',rfl,hg'⟩:=YE hg
  rw[IA] at e
  rw[cB,h.take (OA _)]
  split at e
  ·rename_i hq
   obtain⟨r,k1,n1,e1,e2⟩:=PR.bind_okE e
   unfold XE at e1
   obtain⟨v,k2,n2,e3,e4⟩:=PR.bind_okE e1
   obtain⟨u,k3,n3,e5,e6⟩:=PR.bind_okE e4
   unfold cC at e3
   split at e3
   ·rename_i hnum
    injection e3 with e7 e8 e9
    subst e7 e8 e9
    obtain⟨_,rfl,rfl⟩:=h.need (OA _) e5 0
    split at e6
    ·rename_i hr
     injection e6 with e7 e8 e9
     subst e7 e8 e9
     have ht:(cA L (k+1)).text.toList≠[]:=by obtain⟨c,q,e,_⟩:=h.fn _ hnum.1;rw[e];simp
     rw[if_pos hq,PR.bind_ok,if_pos rfl,if_pos hnum.1,if_neg (by omega),h.step _ ht,PR.bind_ok,(h.need (OA _) e5 _).1,PR.bind_ok]
     exact A.partL g' _ _ _ _ _ _ hg' e2
    ·cases e6
   ·cases e3
  ·rename_i hq
   rw[if_neg hq,PR.bind_ok,if_neg (by simp)]
   exact e
 ·intro g k n x k' n' hg e
  obtain⟨g',rfl,hg'⟩:=YE hg
  rw[mB] at e
  rw[LB]
  split at e
  ·rename_i hk
   obtain⟨v,k1,n1,e1,e2⟩:=PR.bind_okE e
   unfold cC at e1
   split at e1
   ·rename_i hnum
    injection e1 with e7 e8 e9
    subst e7 e8 e9
    have ht:(cA L k).text.toList≠[]:=by obtain⟨c,q,e,_⟩:=h.fn _ hk;rw[e];simp
    rw[if_pos hk,if_neg (by omega),h.step _ ht,PR.bind_ok]
    exact e2
   ·cases e1
  ·rename_i hk
   rw[if_neg hk]
   split at e
   ·rename_i hq
    obtain⟨wn,k2,n2,e3,e4⟩:=PR.bind_okE e
    obtain⟨d3,rfl,rfl,rfl⟩:=h.name e3
    rw[if_pos (q1 hq),h.step _ (by rw[oC hq];exact qP),PR.bind_ok,d3,PR.bind_ok]
    exact e4
   ·rename_i hq1
    rw[if_neg (q0 hq1)]
    split at e
    ·rename_i hq
     unfold JD at e
     obtain⟨wn,k2,n2,e3,e4⟩:=PR.bind_okE e
     obtain⟨d3,rfl,rfl,rfl⟩:=h.name e3
     obtain⟨u,k3,n3,e5,e6⟩:=PR.bind_okE e4
     obtain⟨_,rfl,rfl⟩:=h.need pN e5 0
     obtain⟨on,k4,n4,e7,e8⟩:=PR.bind_okE e6
     obtain⟨d5,rfl,rfl,rfl⟩:=h.name e7
     rw[if_pos (q1 hq),h.step _ (by rw[oC hq];exact rP),PR.bind_ok,d3,PR.bind_ok,(h.need pN e5 _).1,PR.bind_ok,d5,PR.bind_ok]
     exact e8
    ·rename_i hq2
     rw[if_neg (q0 hq2)]
     split at e
     ·rename_i hq
      have ht:(cA L k).text.toList≠[]:=by
       rcases hq with q|q
       ·rw[oC q];exact qO
       ·rw[oC q];exact rO
      match f,e,ih,A,hg' with
      |0,e,_,_,_=>rw[KB] at e;cases e
      |f'+1,e,ih,_,hg'=>
       have A':=ih f' (by omega)
       rw[KB] at e
       obtain⟨d,k1,n1,e1,e2⟩:=PR.bind_okE e
       obtain⟨d1,d2,rfl,rfl,rfl⟩:=h.enter ht e1
       obtain⟨u,k3,n3,e5,e6⟩:=PR.bind_okE e2
       obtain⟨_,rfl,rfl⟩:=h.need (OA _) e5 0
       have d4:=(h.need (OA _) e5 (n+1)).1
       obtain⟨m,k4,n4,e7,e8⟩:=PR.bind_okE e6
       obtain⟨u2,k5,n5,e9,e10⟩:=PR.bind_okE e8
       obtain⟨d5,rfl,rfl⟩:=h.need (OA _) e9 n4
       obtain⟨m2,k6,n6,e11,e12⟩:=PR.bind_okE e10
       obtain⟨u3,k7,n7,e13,e14⟩:=PR.bind_okE e12
       obtain⟨d6,rfl,rfl⟩:=h.leave (OA _) e13
       rw[if_pos (q2 hq),d1,PR.bind_ok,d2,PR.bind_ok,d4,PR.bind_ok,A'.sum g' _ _ _ _ _ (by omega) e7,PR.bind_ok,d5,PR.bind_ok,A'.sum g' _ _ _ _ _ (by omega) e11,PR.bind_ok,d6,PR.bind_ok]
       exact e14
     ·rename_i hq3
      rw[if_neg (q3 hq3)]
      split at e
      ·rename_i hq
       obtain⟨d,k1,n1,e1,e2⟩:=PR.bind_okE e
       obtain⟨d1,d2,rfl,rfl,rfl⟩:=h.enter (by rw[oC hq];exact OA _) e1
       obtain⟨m,k2,n2,e3,e4⟩:=PR.bind_okE e2
       obtain⟨u,k3,n3,e5,e6⟩:=PR.bind_okE e4
       obtain⟨d3,rfl,rfl⟩:=h.leave (OA _) e5
       rw[if_pos (q1 hq),d1,PR.bind_ok,d2,PR.bind_ok,A.sum g' _ _ _ _ _ hg' e3,PR.bind_ok,d3,PR.bind_ok]
       exact e6
      ·rename_i hq4
       obtain⟨wn,k2,n2,e3,e4⟩:=PR.bind_okE e
       obtain⟨d3,rfl,rfl,rfl⟩:=h.name e3
       rw[if_neg (q0 hq4),d3,PR.bind_ok]
       exact e4
theorem GP(L:List Tok):Agr L 0:=by
 refine⟨?_,?_,?_,?_,?_,?_,?_,?_,?_,?_,?_⟩
 ·intro g k n x k' n' _ e;rw[FA] at e;cases e
 ·intro g y k n x k' n' _ e;rw[zB] at e;cases e
 ·intro g k n x k' n' _ e;rw[iC] at e;cases e
 ·intro g y k n x k' n' _ e;rw[WA] at e;cases e
 ·intro g k n x k' n' _ e;rw[QA] at e;cases e
 ·intro g k n x k' n' _ e;rw[BC] at e;cases e
 ·intro g k n x k' n' _ e;rw[GC] at e;cases e
 ·intro g y k n x k' n' _ e;rw[UA] at e;cases e
 ·intro g k n x k' n' _ e;rw[fC] at e;cases e
 ·intro g y k n x k' n' _ e;rw[IA] at e;cases e
 ·intro g k n x k' n' _ e;rw[mB] at e;cases e
theorem EW{L:List Tok}(h:GoodL L)(f:Nat):Agr L f:=by
 induction f using Nat.strongRecOn with
 |ind f ih=>
  match f,ih with
  |0,_=>exact GP L
  |f+1,ih=>exact FP h f fun f' hf=>ih f' (by omega)
end Go.Proofs.YtehbinobohjadaaGreatDoor
namespace Go.Proofs.YtehbinobohjadaaGreatDoor
open Go.ChangeShapes Go.WideShapes Go.ChangeAt Go.WideMaps Go.WideElems Go.RowKit
theorem Tryz.ownAll:ownKnob Tryz.prog.godebug=none:=by kernel_rfl
theorem Tryz.laidOutAll:laidOutB Tryz.prog=true:=by kernel_rfl
section
variable {H:Type} {enc:TypeId×Value→H} {W:World}
theorem TJ{a:Addr}{u:Value}(h:W.cell? a=some u):∃b o,a=⟨b,o,none⟩:=by
 obtain⟨b,o,sp⟩:=a
 have hs:=World.cell?_spot h
 have hs':sp=none:=hs
 subst hs'
 exact⟨b,o,rfl⟩
theorem zG(b o j:Nat):(⟨b,o,none⟩:Addr).add j=⟨b,o+j,none⟩:=by cases j<;>simp[Addr.add]
theorem sH{a:Addr}{n:Nat}{cs:List Value}(h:W.cells? 0 a n=some cs):cs.length=n∧∀i,i<n→W.cell? (a.add i)=cs[i]?:=by
 unfold World.cells? at h
 rw[if_pos (Nat.zero_le _)] at h
 have hl:=mapM_some_length h
 rw[List.length_range] at hl
 exact⟨hl,fun i hi=>mapM_some_get h i i (by rw[List.getElem?_range hi])⟩
theorem DW{n:Int}(h:(Lit.int .i64 n).wf=true):-9223372036854775808≤n∧n≤9223372036854775807:=by
 have e1:IntKind.i64.min=-9223372036854775808:=by decide
 have e2:IntKind.i64.max=9223372036854775807:=by decide
 have h:(decide (IntKind.i64.min≤n)&&decide (n≤IntKind.i64.max))=true:=h
 rw[Bool.and_eq_true,decide_eq_true_eq,decide_eq_true_eq,e1,e2] at h
 exact h
def AP(v:Value):Prop:=∀n c,v=.slice none n c→c=0
theorem cU:AP (.slice none 0 0):=fun n c h=>by
 injection h with _ _ h
 exact h.symm
theorem dU(a:Addr)(len cap:Nat):AP (.slice (some a) len cap):=fun n c h=>by
 injection h with h _ _
 cases h
theorem SE(P:Program)(e:TypeId):∀(l:List (DataW H)) {d:DataW H},d∈l→∀z∈d.weights P e,z∈DataW.weightsAll P e l
 |x::l,d,hd,z,hz=>by
  rw[DataW.weightsAll]
  rcases List.mem_cons.1 hd with rfl|hd
  ·exact List.mem_append_left _ hz
  ·exact List.mem_append_right _ (SE P e l hd z hz)
set_option maxRecDepth 100000 in
theorem aN{α:Type}{t e:TypeId}{k:Nat}(hk:0<k)(ht:Tryz.prog.underlying t=some (.slice e))(hc:Tryz.prog.cellsOf e=k){fuel:Nat}{v:Value}{x:DataW H×List MemPlace}
 (h:DataW.trod enc Tryz.prog W 0 (fun _=>true) true fuel t [v]=some x) (hw:∀y∈x.1.weights Tryz.prog t,y≤reachBytes) (P:α→List Value→Prop)
 (hone:∀n cs y,DataW.trod enc Tryz.prog W 0 (fun _=>true) true n e cs=some y→(∀z∈y.1.weights Tryz.prog e,z≤reachBytes)→∃a,P a cs):
 AP v∧∃a c,∃l:List α,v=.slice a l.length c∧l.length≤c∧l.length * Tryz.prog.bytesOf e≤reachBytes∧∀i r,l[i]?=some r→∃g o cs,a=some ⟨g,o,none⟩∧g<W.heap.size∧P r cs∧∀c,c<k→W.cell? ⟨g,o+i * k+c,none⟩=cs[c]?:=by
 rcases DataW.trod_slice ht h with ⟨h1,_⟩|⟨a,len,cap',elems,rest,m,_,h1,hx,_,hlc,_,helen,hel,_⟩
 ·injection h1 with h1 _
  subst h1
  exact⟨cU,none,0,[],rfl,by simp,by simp,fun i r hr=>by simp at hr⟩
 ·injection h1 with h1 _
  subst h1
  subst hx
  simp only[DataW.weights,ht] at hw
  have hw0:=hw _ (List.mem_cons_self ..)
  have hwe:∀d∈elems.map (·.1),∀z∈d.weights Tryz.prog e,z≤reachBytes:=fun d hd z hz=>hw z (List.mem_cons_of_mem _ (List.mem_append_left _ (SE _ _ _ hd z hz)))
  have hone2:∀i,i<len→∃a' cs,P a' cs∧∀c,c<k→W.cell? ((a.add (i * k)).add c)=cs[c]?:=fun i hi=>by
   have h2:=hel i hi
   obtain⟨y,hy⟩:∃y,elems[i]?=some y:=⟨_,List.getElem?_eq_getElem (by omega)⟩
   rw[hy,Option.bind_eq_some_iff] at h2
   obtain⟨cs1,h3,h5⟩:=h2
   rw[hc] at h3
   obtain⟨a',ha⟩:=hone _ _ _ h5 (hwe y.1 (List.mem_map_of_mem (List.mem_of_getElem? hy)))
   exact⟨a',cs1,ha,(sH h3).2⟩
  refine⟨dU a len cap',some a,cap',?_⟩
  have hlist:∀n,n≤len→∃l:List α,l.length=n∧∀i r,l[i]?=some r→∃cs,P r cs∧∀c,c<k→W.cell? ((a.add (i * k)).add c)=cs[c]?:=fun n=>by
   induction n with
   |zero=>exact fun _=>⟨[],rfl,fun i r hr=>by simp at hr⟩
   |succ n ih=>
    intro hn
    obtain⟨l,hl,hp⟩:=ih (by omega)
    obtain⟨a',cs,h1,h2⟩:=hone2 n (by omega)
    refine⟨l++[a'],by simp[hl],fun i r hr=>?_⟩
    rcases Nat.lt_or_ge i n with hi|hi
    ·rw[List.getElem?_append_left (by omega)] at hr
     exact hp i r hr
    ·have hin:i=n:=by
      have:=(List.getElem?_eq_some_iff.1 hr).1
      simp at this
      omega
     subst hin
     rw[←hl] at hr
     simp at hr
     subst hr
     exact⟨cs,h1,h2⟩
  obtain⟨l,hl,hp⟩:=hlist len (nR _)
  refine⟨l,by rw[hl],by rw[hl];exact hlc,?_,fun i r hr=>?_⟩
  ·refine Nat.le_trans (Nat.mul_le_mul_right _ ?_) hw0
   rw[hl,List.length_map,helen]
   omega
  ·obtain⟨cs,h1,h2⟩:=hp i r hr
   have hi:i<len:=by have:=(List.getElem?_eq_some_iff.1 hr).1;omega
   have h4:=hel 0 (by omega)
   obtain⟨y,hy⟩:∃y,elems[0]?=some y:=⟨_,List.getElem?_eq_getElem (by omega)⟩
   rw[hy,Option.bind_eq_some_iff] at h4
   obtain⟨cs1,h5,_⟩:=h4
   rw[hc] at h5
   obtain⟨q1,q2⟩:=sH h5
   have q3:=q2 0 hk
   rw[List.getElem?_eq_getElem (by omega),show (a.add (0 * k)).add 0=a by simp[Addr.add]] at q3
   obtain⟨ab,ao,hb⟩:=TJ q3
   subst hb
   refine⟨ab,ao,cs,rfl,fB q3,h1,fun c hc2=>?_⟩
   rw[←h2 c hc2,zG,zG]
end
end Go.Proofs.YtehbinobohjadaaGreatDoor

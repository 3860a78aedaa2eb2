import Derived.Test.YtpbolcjcmkmalaaGreatDoorAq00
import Derived.Test.YtpbolcjcmkmalaaGreatDoorAq01
import Derived.Lib.Split
import Derived.Lib.IndexMore
import Derived.Test.YtpbolcjcmkmalaaGreatDoorProg
import Derived.WalkKit
import Derived.Test.YtpbolcjcmkmalaaGreatDoorRows
import Derived.ProofKit
import Derived.LaidMore
import Derived.OpenShut
import Derived.Stop.Joined
import Derived.WideLaws
import Derived.ChangeSlices
import Derived.ChangeSame
import Derived.BigRegion
import Derived.BigCall
import Derived.BigGuard
import Derived.Deep.RegionWith
import Derived.Deep.RegionLaw
import Derived.Deep.DrawnRows
set_option maxHeartbeats 20000000
set_option maxRecDepth 20000
namespace Go.Proofs.YtpbolcjcmkmalaaGreatDoor
open Go.RowKit Go.Extern.Stop Go.Stop Go.Extern
def gD(l:List UInt8):ByteArray:=⟨l.toArray⟩
theorem eB(l:List UInt8):bl (gD l)=l:=by unfold gD;simp[bl]
theorem rG(s:ByteArray):gD (bl s)=s:=by unfold gD;simp[bl]
theorem VD{a b:ByteArray}(h:bl a=bl b):a=b:=by rw[←rG a,←rG b,h]
end Go.Proofs.YtpbolcjcmkmalaaGreatDoor
namespace Go.Proofs.YtpbolcjcmkmalaaGreatDoor
open Go.RowKit
theorem Tryz.infoItem:∃i z,Tryz.prog.info? 25=some i∧i.zero=some z∧i.size=4∧i.bytes=80∧z.cells.size=4:=by
 have h:(Tryz.prog.info? 25).map (fun i=>(i.zero,i.size,i.bytes))=some (some (.agg #[.string ⟨#[]⟩,.string ⟨#[]⟩,.slice none 0 0,.slice none 0 0]),4,80):=by kernel_rfl
 obtain⟨i,h1,h2⟩:=Option.map_eq_some_iff.1 h
 simp only[Prod.mk.injEq] at h2
 exact⟨i,_,h1,h2.1,h2.2.1,h2.2.2,rfl⟩
theorem Tryz.infoStr:∃i z,Tryz.prog.info? 9=some i∧i.zero=some z∧i.size=1∧i.bytes=16∧z.cells.size=1:=by
 have h:(Tryz.prog.info? 9).map (fun i=>(i.zero,i.size,i.bytes))=some (some (.string ⟨#[]⟩),1,16):=by kernel_rfl
 obtain⟨i,h1,h2⟩:=Option.map_eq_some_iff.1 h
 simp only[Prod.mk.injEq] at h2
 exact⟨i,_,h1,h2.1,h2.2.1,h2.2.2,rfl⟩
end Go.Proofs.YtpbolcjcmkmalaaGreatDoor
namespace Go.Proofs.YtpbolcjcmkmalaaGreatDoor
open Go.RowKit Go.Extern.Stop Go.Stop Go.Extern
def zP:Value→Option Addr| .slice a _ _=>a|_=>none
def BP:Value→Nat| .slice _ n _=>n|_=>0
def AP:Value→Nat| .slice _ _ c=>c|_=>0
def WG:Value→ByteArray| .string s=>s|_=>⟨#[]⟩
theorem Lies.forms{w:World}{P:Nat→Prop}{v:Nat→Value}{t:It}(h:Lies w P v t):v 0=.string t.label∧v 1=.string t.head∧(∃la lc,v 2=.slice la t.lines.length lc)∧∃ka kc,v 3=.slice ka t.kids.length kc:=by
 cases h with
 |mk v t la ka lc kc V h0 h1 h2 h3 hl hk hr hlc hkc=>exact⟨h0,h1,⟨la,lc,h2⟩,⟨ka,kc,h3⟩⟩
theorem Lies.caps{w:World}{P:Nat→Prop}{v:Nat→Value}{t:It}(h:Lies w P v t){la ka:Option Addr}{n m lc kc:Nat}(e:v 2=.slice la n lc)(e':v 3=.slice ka m kc):t.lines.length≤lc∧t.kids.length≤kc:=by
 cases h with
 |mk v t la' ka' lc' kc' V h0 h1 h2 h3 hl hk hr hlc hkc=>
  rw[h2] at e
  rw[h3] at e'
  injection e with _ _ e3
  injection e' with _ _ e4
  exact⟨by omega,by omega⟩
theorem Lies.kidsAt{w:World}{P:Nat→Prop}{v:Nat→Value}{t:It}(h:Lies w P v t){ka:Option Addr}{n kc:Nat}(e:v 3=.slice ka n kc):n=t.kids.length∧∃V:Nat→Nat→Value,(∀i,i<t.kids.length→∃b o,ka=some ⟨b,o,none⟩∧P b∧∀c,c<4→w.cell? ⟨b,o+i * 4+c,none⟩=some (V i c))∧∀i k,t.kids[i]?=some k→Lies w P (V i) k:=by
 cases h with
 |mk v t la ka' lc kc' V h0 h1 h2 h3 hl hk hr hlc hkc=>
  rw[h3] at e
  injection e with e1 e2 e3
  subst e1 e2 e3
  exact⟨rfl,V,hk,hr⟩
theorem NH{w:World}{P:Nat→Prop}{kids:List It}{ka:Option Addr}{V:Nat→Nat→Value}(hk:∀i,i<kids.length→∃b o,ka=some ⟨b,o,none⟩∧P b∧∀c,c<4→w.cell? ⟨b,o+i * 4+c,none⟩=some (V i c))(hr:∀i k,kids[i]?=some k→Lies w P (V i) k):
 ∀i,i<kids.length→∃b o,ka=some ⟨b,o,none⟩∧w.cell? ⟨b,o+i * 4,none⟩=some (.string (WG (V i 0)))∧w.cell? ⟨b,o+i * 4+1,none⟩=some (.string (WG (V i 1)))∧w.cell? ⟨b,o+i * 4+2,none⟩=some (.slice (zP (V i 2)) (BP (V i 2)) (AP (V i 2)))∧w.cell? ⟨b,o+i * 4+3,none⟩=some (.slice (zP (V i 3)) (BP (V i 3)) (AP (V i 3))):=by
 intro i hi
 obtain⟨b,o,e,_,hc⟩:=hk i hi
 obtain⟨f0,f1,⟨la,lc,f2⟩,⟨kb,kc,f3⟩⟩:=(hr i _ (List.getElem?_eq_getElem hi)).forms
 refine⟨b,o,e,?_,?_,?_,?_⟩
 ·have:=hc 0 (by omega);rw[f0] at this ⊢;exact this
 ·have:=hc 1 (by omega);rw[f1] at this ⊢;exact this
 ·have:=hc 2 (by omega);rw[f2] at this ⊢;exact this
 ·have:=hc 3 (by omega);rw[f3] at this ⊢;exact this
end Go.Proofs.YtpbolcjcmkmalaaGreatDoor
namespace Go.Proofs.YtpbolcjcmkmalaaGreatDoor
open Go.ChangeShapes Go.WideShapes Go.ChangeAt Go.WideMaps Go.WideElems Go.RowKit
def pC:List ByteArray→Nat
 | []=>0
 |s::r=>s.size+1+pC r
mutual
def jA:It→Nat
 | .mk a b c d=>a.size+b.size+pC c+lA d+1
def lA:List It→Nat
 | []=>0
 |t::r=>jA t+lA r
end
section
variable {H:Type} {enc:TypeId×Value→H} {W:World}
theorem GN{a:Addr}{u:Value}(h:W.cell? a=some u):∃b o,a=⟨b,o,none⟩:=by
 obtain⟨b,o,sp⟩:=a
 have hs:=World.cell?_spot h
 have hs':sp=none:=hs
 subst hs'
 exact⟨b,o,rfl⟩
theorem dC(b o j:Nat):(⟨b,o,none⟩:Addr).add j=⟨b,o+j,none⟩:=by cases j<;>simp[Addr.add]
theorem aK{a:Addr}{n:Nat}{cs:List Value}(h:W.cells? 0 a n=some cs):cs.length=n∧∀i,i<n→W.cell? (a.add i)=cs[i]?:=by
 unfold World.cells? at h
 rw[if_pos (Nat.zero_le _)] at h
 have hl:=mapM_some_length h
 rw[List.length_range] at hl
 exact⟨hl,fun i hi=>mapM_some_get h i i (by rw[List.getElem?_range hi])⟩
end
end Go.Proofs.YtpbolcjcmkmalaaGreatDoor
namespace Go.Proofs.YtpbolcjcmkmalaaGreatDoor
open Go.RowKit
def yA:List ByteArray→Nat
 | []=>0
 |s::r=>s.size / 400+yA r
mutual
def YA:Nat→It→Nat
 |d,.mk a b c k=>if 12<d then 1000 else QA d (1+c.length+(b.size+a.size) / 400+yA c) k
def QA:Nat→Nat→List It→Nat
 |_,n,[]=>n
 |d,n,t::r=>if n<1000 then QA d (n+YA (d+1) t) r else n
end
theorem jE:∀l:List ByteArray,l.length+yA l≤pC l
 | []=>by simp[yA,pC]
 |s::r=>by
  have:=jE r
  rw[yA,pC,List.length_cons]
  omega
theorem KE:∀(l:List ByteArray) (s:ByteArray),yA (l++[s])=yA l+s.size / 400
 | [],s=>by simp[yA]
 |x::r,s=>by rw[List.cons_append,yA,yA,KE r s];omega
theorem wI(l:List ByteArray)(i:Nat)(s:ByteArray)(h:l[i]?=some s):yA (l.take (i+1))=yA (l.take i)+s.size / 400:=by
 obtain⟨hi,e⟩:=List.getElem?_eq_some_iff.1 h
 rw[List.take_succ_eq_append_getElem hi,e,KE]
theorem zJ(l:List ByteArray)(i:Nat):yA (l.take i)≤yA l:=by
 have:∀(l:List ByteArray) (i:Nat),yA (l.take i)≤yA l:=by
  intro l
  induction l with
  |nil=>intro i;simp[yA]
  |cons s r ih=>
   intro i
   cases i with
   |zero=>simp[yA]
   |succ i=>rw[List.take_succ_cons,yA,yA];have:=ih i;omega
 exact this l i
theorem uA(t:It):jA t=t.label.size+t.head.size+pC t.lines+lA t.kids+1:=by
 cases t;rw[jA];rfl
theorem TC(d:Nat)(t:It):YA d t=if 12<d then 1000 else QA d (1+t.lines.length+(t.head.size+t.label.size) / 400+yA t.lines) t.kids:=by
 cases t;rw[YA];rfl
theorem lD:∀{l:List It} {t:It},t∈l→jA t≤lA l
 |a::r,t,h=>by
  rw[lA]
  rcases List.mem_cons.1 h with rfl|h
  ·omega
  ·have:=lD h;omega
theorem kD:∀l:List It,l.length≤lA l
 | []=>by simp[lA]
 |a::r=>by
  have:=kD r
  have h1:=uA a
  rw[List.length_cons,lA];omega
theorem rB{t k:It}(h:k∈t.kids):jA k<jA t:=by
 have:=lD h
 have:=uA t
 omega
theorem ZH:∀(N:Nat) (t:It),jA t≤N→∀d,YA d t≤1000 * jA t+1000
 |0,t,h,d=>by have:=uA t;omega
 |N+1,t,h,d=>by
  rw[TC]
  split
  ·have:=uA t;omega
  ·have h1:=uA t
   have h2:=jE t.lines
   have hk:∀(l:List It) (n:Nat),(∀k∈l,jA k<jA t)→n≤1000 * jA t+1000→QA d n l≤1000 * jA t+1000:=by
    intro l
    induction l with
    |nil=>intro n _ hn;rw[QA];exact hn
    |cons k r ih=>
     intro n hkk hn
     rw[QA]
     split
     ·have h3:=hkk k (by simp)
      have h4:=ZH N k (by omega) (d+1)
      exact ih _ (fun x hx=>hkk x (List.mem_cons_of_mem _ hx)) (by omega)
     ·exact hn
   exact hk t.kids _ (fun k hk=>rB hk) (by omega)
theorem aL{d n i:Nat}{l:List It}{t:It}(h:l[i]?=some t)(hn:n<1000):QA d n (l.drop i)=QA d (n+YA (d+1) t) (l.drop (i+1)):=by
 obtain⟨hi,e⟩:=List.getElem?_eq_some_iff.1 h
 rw[List.drop_eq_getElem_cons hi,e,QA,if_pos hn]
theorem cL{d n i:Nat}{l:List It}(h:1000≤n):QA d n (l.drop i)=n:=by
 cases l.drop i with
 |nil=>rw[QA]
 |cons a r=>rw[QA,if_neg (by omega)]
theorem XL{d n i:Nat}{l:List It}(h:l.length≤i):QA d n (l.drop i)=n:=by
 rw[List.drop_eq_nil_of_le h,QA]
theorem vM(w:World)(s:ByteArray):∀(j:Nat) (u:Value),[Value.string s][j]?=some u→(w.alloc (.cells #[Value.string s] 9)).cell? ((⟨w.heap.size,0,none⟩:Addr).add j)=some u:=by
 intro j u hj
 match j,hj with
 |0,hj=>simp at hj;subst hj;simp[Addr.add]
end Go.Proofs.YtpbolcjcmkmalaaGreatDoor
namespace Go.Proofs.YtpbolcjcmkmalaaGreatDoor
open Go.RowKit Go.Extern.Stop Go.Stop Go.Extern
theorem XD(w:World)(a b c d:Value):∀(j:Nat) (u:Value),[a,b,c,d][j]?=some u→(w.alloc (.cells #[a,b,c,d] 25)).cell? ((⟨w.heap.size,0,none⟩:Addr).add j)=some u:=by
 intro j u hj
 match j,hj with
 |0,hj=>simp at hj;subst hj;simp[Addr.add]
 |1,hj=>simp at hj;subst hj;simp[Addr.add]
 |2,hj=>simp at hj;subst hj;simp[Addr.add]
 |3,hj=>simp at hj;subst hj;simp[Addr.add]
theorem Lies.one{w:World}{P:Nat→Prop}{v:Nat→Value}{t:It}(h:Lies w P v t):∀c,c<4→(v c).oneCell'=true:=by
 obtain⟨f0,f1,⟨la,lc,f2⟩,⟨ka,kc,f3⟩⟩:=h.forms
 intro c hc
 match c,hc with
 |0,_=>rw[f0];rfl
 |1,_=>rw[f1];rfl
 |2,_=>rw[f2];rfl
 |3,_=>rw[f3];rfl
end Go.Proofs.YtpbolcjcmkmalaaGreatDoor

import Derived.Test.YtehbinobohjadaaGreatDoorTm00
import Derived.Test.YtehbinobohjadaaGreatDoorTm23
import Derived.Test.YtehbinobohjadaaGreatDoorTm35
import Derived.Test.YtehbinobohjadaaGreatDoorTm27
import Derived.Test.YtehbinobohjadaaGreatDoorTm11
import Derived.Test.YtehbinobohjadaaGreatDoorTm34
set_option maxHeartbeats 20000000
set_option maxRecDepth 20000
namespace Go.Proofs.YtehbinobohjadaaGreatDoor
open Go.RowKit Go.Extern.Stop Go.Stop Go.Extern
def OkT(L:List Tok)(k:Nat):Prop:=(cA L k).kind≠.b∧((cA L k).kind=.w→(cA L k).text.size≤24)∧((cA L k).kind=.n→BE (cA L k).text≤12)∧k<L.length
theorem ON{L:List Tok}{k:Nat}(h:(cA L k).kind≠.e):k<L.length:=by
 rcases Nat.lt_or_ge k L.length with q|q
 ·exact q
 ·exfalso
  apply h
  unfold cA
  rw[List.getElem?_eq_none q]
  rfl
def Sp(L:List Tok)(k k':Nat):Prop:=k≤k'∧∀i,k≤i→i<k'→OkT L i
theorem Sp.refl(L:List Tok)(k:Nat):Sp L k k:=⟨nR _,fun i h1 h2=>by omega⟩
theorem Sp.trans{L:List Tok}{a b c:Nat}(h:Sp L a b)(k:Sp L b c):Sp L a c:=⟨Nat.le_trans h.1 k.1,fun i h1 h2=>by
 rcases Nat.lt_or_ge i b with q|q
 ·exact h.2 i h1 q
 ·exact k.2 i q h2⟩
theorem OkT.one{L:List Tok}{k:Nat}(h:OkT L k):Sp L k (k+1):=⟨by omega,fun i h1 h2=>by
 obtain rfl:i=k:=by omega
 exact h⟩
structure WfL(L:List Tok):Prop where
 b:∀k,(cA L k).kind=.b→∃c r,(cA L k).text.toList=c::r∧PB c=false∧lA c=false∧signsL.contains c=false
 w:∀k,(cA L k).kind=.w→∃c r,(cA L k).text.toList=c::r∧PB c=true
 n:∀k,(cA L k).kind=.n→∃c r,(cA L k).text.toList=c::r∧lA c=true
 s:∀k,(cA L k).kind=.s→∃c r,(cA L k).text.toList=c::r∧PB c=false
def QU(s:ByteArray):Bool:=decide (s.size≤24)&&match s.data.toList with
 | []=>false
 |c::_=>(PB c&&!lA c)||(!PB c&&!lA c&&signsL.contains c)
theorem WfL.ok{L:List Tok}(h:WfL L){s:ByteArray}{k:Nat}(e:(cA L k).text.toList=s.toList)(hs:QU s=true):OkT L k:=by
 unfold QU at hs
 rw[Bool.and_eq_true,decide_eq_true_eq] at hs
 obtain⟨hz,hs⟩:=hs
 have hsz:(cA L k).text.size≤24:=by
  have h1:(cA L k).text.data.toList=s.data.toList:=by rw[←Lib.toList_data,←Lib.toList_data];exact e
  have h2:=congrArg List.length h1
  rw[xA,xA] at h2
  omega
 rw[Lib.toList_data s] at e
 cases hc:s.data.toList with
 |nil=>rw[hc] at hs;cases hs
 |cons c r=>
  rw[hc] at hs e
  simp only[Bool.or_eq_true,Bool.and_eq_true,Bool.not_eq_true'] at hs
  refine⟨fun hb=>?_,fun _=>hsz,fun hn=>?_,fN (by rw[e];simp)⟩
  ·obtain⟨c1,r1,e1,q1,q2,q3⟩:=h.b k hb
   rw[e] at e1
   injection e1 with e1 _
   subst e1
   rcases hs with ⟨a1,_⟩|⟨_,a3⟩
   ·rw[q1] at a1;cases a1
   ·rw[q3] at a3;cases a3
  ·obtain⟨c1,r1,e1,q1⟩:=h.n k hn
   rw[e] at e1
   injection e1 with e1 _
   subst e1
   rcases hs with ⟨_,a2⟩|⟨⟨_,a2⟩,_⟩<;>(rw[q1] at a2;cases a2)
theorem WfL.is{L:List Tok}(h:WfL L){s:ByteArray}{k:Nat}(e:YB L s k=true)(hs:QU s=true):OkT L k:=h.ok (oC e) hs
theorem uF{L:List Tok}(h:WfL L){s:ByteArray}(hs:QU s=true){k n k' n':Nat}{x:Unit}(e:bB L s k n=.ok x k' n'):Sp L k k':=by
 unfold bB at e
 split at e
 ·rename_i hi
  injection e with _ e _
  subst e
  exact(h.is hi hs).one
 ·cases e
theorem UE{L:List Tok}{k n k' n':Nat}{x:ByteArray}(e:oB L k n=.ok x k' n'):Sp L k k':=by
 unfold oB at e
 split at e
 ·rename_i hi
  injection e with _ e _
  subst e
  have h1:=hi.1
  unfold dD at h1
  rw[Bool.and_eq_true,decide_eq_true_eq] at h1
  exact OkT.one ⟨fun q=>(by rw[h1.1] at q;cases q),fun _=>hi.2,fun q=>(by rw[h1.1] at q;cases q),ON (fun q=>(by rw[h1.1] at q;cases q))⟩
 ·cases e
theorem BL{L:List Tok}{k n k' n':Nat}{x:Nat}(e:cC L k n=.ok x k' n'):Sp L k k':=by
 unfold cC at e
 split at e
 ·rename_i hi
  injection e with _ e _
  subst e
  exact OkT.one ⟨fun q=>(by rw[hi.1] at q;cases q),fun q=>(by rw[hi.1] at q;cases q),fun _=>hi.2.1,ON (fun q=>(by rw[hi.1] at q;cases q))⟩
 ·cases e
theorem oV{L:List Tok}(h:WfL L){k n k' n':Nat}{x:Nat}(e:XE L k n=.ok x k' n'):Sp L k k':=by
 unfold XE at e
 obtain⟨x1,k1,n1,e1,e⟩:=PR.bind_okE e
 obtain⟨x2,k2,n2,e2,e⟩:=PR.bind_okE e
 split at e
 ·injection e with _ e _
  subst e
  exact(BL e1).trans (uF h (by decide) e2)
 ·cases e
theorem zH{L:List Tok}{k n k' n':Nat}{x:ByteArray}(e:TB L k n=.ok x k' n')(h:OkT L k):Sp L k k':=by
 unfold TB at e
 split at e
 ·cases e
 ·injection e with _ e _
  subst e
  exact h.one
theorem II{L:List Tok}(h:WfL L){s:ByteArray}(hs:QU s=true){k n k' n':Nat}{x:Unit}(e:dC L s k n=.ok x k' n'):Sp L k k':=by
 unfold dC at e
 obtain⟨x1,k1,n1,e1,e⟩:=PR.bind_okE e
 injection e with _ e _
 subst e
 exact uF h hs e1
theorem vT{L:List Tok}(h:WfL L){k n k' n':Nat}{x:Nd}(e:JD L k n=.ok x k' n'):Sp L k k'∧SmallN x:=by
 unfold JD at e
 obtain⟨x1,k1,n1,e1,e⟩:=PR.bind_okE e
 obtain⟨x2,k2,n2,e2,e⟩:=PR.bind_okE e
 obtain⟨x3,k3,n3,e3,e⟩:=PR.bind_okE e
 injection e with e0 e _
 subst e e0
 exact⟨(UE e1).trans ((uF h (by decide) e2).trans (UE e3)),GK (wF _ _ _) _ _ _⟩
theorem cW{s:ByteArray}(h:(iA ordersW s).isSome=true):QU s=true:=by
 unfold iA at h
 rw[List.findIdx?_isSome,List.any_eq_true] at h
 obtain⟨x,hx,e⟩:=h
 obtain rfl:=(wC x s).1 e
 exact(show ∀x,x∈ordersW→QU x=true by decide) x hx
structure ShO(L:List Tok)(f:Nat):Prop where
 ei:∀k n x k' n',FA L f k n=.ok x k' n'→Sp L k k'∧SmallN x
 ol:∀y k n x k' n',SmallN y→zB L f y k n=.ok x k' n'→Sp L k k'∧SmallN x
 bo:∀k n x k' n',iC L f k n=.ok x k' n'→Sp L k k'∧SmallN x
 al:∀y k n x k' n',SmallN y→WA L f y k n=.ok x k' n'→Sp L k k'∧SmallN x
 un:∀k n x k' n',QA L f k n=.ok x k' n'→Sp L k k'∧SmallN x
 te:∀k n x k' n',BC L f k n=.ok x k' n'→Sp L k k'∧SmallN x
 ot:∀k n x k' n',OkT L k→iB L f k n=.ok x k' n'→Sp L k k'∧SmallN x
 co:∀k n x k' n',DC L f k n=.ok x k' n'→Sp L k k'∧SmallN x
 su:∀k n x k' n',GC L f k n=.ok x k' n'→Sp L k k'∧SmallN x
 sl:∀y k n x k' n',SmallN y→UA L f y k n=.ok x k' n'→Sp L k k'∧SmallN x
 pa:∀k n x k' n',fC L f k n=.ok x k' n'→Sp L k k'∧SmallN x
 pl:∀y k n x k' n',SmallN y→IA L f y k n=.ok x k' n'→Sp L k k'∧SmallN x
 fa:∀k n x k' n',mB L f k n=.ok x k' n'→Sp L k k'∧SmallN x
 gr:∀k n x k' n',OkT L k→KB L f k n=.ok x k' n'→Sp L k k'∧SmallN x
theorem DK{L:List Tok}(W:WfL L)(f:Nat):ShO L f:=by
 induction f with
 |zero=>
  refine⟨?_,?_,?_,?_,?_,?_,?_,?_,?_,?_,?_,?_,?_,?_⟩<;>intros<;>rename_i h<;>first|(rw[FA] at h;cases h)|(rw[zB] at h;cases h)|(rw[iC] at h;cases h)|(rw[WA] at h;cases h)|(rw[QA] at h;cases h)|(rw[BC] at h;cases h)|(rw[iB] at h;cases h)|(rw[DC] at h;cases h)|(rw[GC] at h;cases h)|(rw[UA] at h;cases h)|(rw[fC] at h;cases h)|(rw[IA] at h;cases h)|(rw[mB] at h;cases h)|(rw[KB] at h;cases h)
 |succ f ih=>
  refine⟨fun k n x k' n' h=>?_,fun y k n x k' n' hy h=>?_,fun k n x k' n' h=>?_,fun y k n x k' n' hy h=>?_,fun k n x k' n' h=>?_,fun k n x k' n' h=>?_,fun k n x k' n' ho h=>?_,fun k n x k' n' h=>?_,fun k n x k' n' h=>?_,fun y k n x k' n' hy h=>?_,fun k n x k' n' h=>?_,fun y k n x k' n' hy h=>?_,fun k n x k' n' h=>?_,fun k n x k' n' ho h=>?_⟩
  ·rw[FA] at h
   obtain⟨x1,k1,n1,e1,h⟩:=PR.bind_okE h
   have a:=ih.bo _ _ _ _ _ e1
   have b:=ih.ol _ _ _ _ _ _ a.2 h
   exact⟨a.1.trans b.1,b.2⟩
  ·rw[zB] at h
   split at h
   ·rename_i hi
    obtain⟨x1,k1,n1,e1,h⟩:=PR.bind_okE h
    have a:=ih.bo _ _ _ _ _ e1
    have b:=ih.ol _ _ _ _ _ _ (mJ hy a.2 _ _ _) h
    exact⟨(W.is hi (by decide)).one.trans (a.1.trans b.1),b.2⟩
   ·injection h with h1 h2 _
    subst h1 h2
    exact⟨Sp.refl _ _,hy⟩
  ·rw[iC] at h
   obtain⟨x1,k1,n1,e1,h⟩:=PR.bind_okE h
   have a:=ih.un _ _ _ _ _ e1
   have b:=ih.al _ _ _ _ _ _ a.2 h
   exact⟨a.1.trans b.1,b.2⟩
  ·rw[WA] at h
   split at h
   ·rename_i hi
    obtain⟨x1,k1,n1,e1,h⟩:=PR.bind_okE h
    have a:=ih.un _ _ _ _ _ e1
    have b:=ih.al _ _ _ _ _ _ (mJ hy a.2 _ _ _) h
    exact⟨(W.is hi (by decide)).one.trans (a.1.trans b.1),b.2⟩
   ·injection h with h1 h2 _
    subst h1 h2
    exact⟨Sp.refl _ _,hy⟩
  ·rw[QA] at h
   split at h
   ·rename_i hi
    obtain⟨x1,k1,n1,e1,h⟩:=PR.bind_okE h
    obtain⟨x2,k2,n2,e2,h⟩:=PR.bind_okE h
    injection h with h1 h2 _
    subst h1 h2
    have a:=ih.un _ _ _ _ _ e2
    exact⟨(zH e1 (W.is hi (by decide))).trans a.1,GK a.2 _ _ _⟩
   ·exact ih.te _ _ _ _ _ h
  ·rw[BC] at h
   split at h
   ·rename_i hi
    obtain⟨x1,k1,n1,e1,h⟩:=PR.bind_okE h
    obtain⟨x2,k2,n2,e2,h⟩:=PR.bind_okE h
    obtain⟨x3,k3,n3,e3,h⟩:=PR.bind_okE h
    injection h with h1 h2 _
    subst h1 h2
    have a:=ih.ei _ _ _ _ _ e2
    exact⟨(zH e1 (W.is hi (by decide))).trans (a.1.trans (II W (by decide) e3)),a.2⟩
   ·split at h
    ·rename_i hi
     exact ih.ot _ _ _ _ _ (hi.elim (fun q=>W.is q (by decide)) fun q=>W.is q (by decide)) h
    ·split at h
     ·obtain⟨x1,k1,n1,e1,h⟩:=PR.bind_okE h
      injection h with h1 h2 _
      subst h1 h2
      exact⟨UE e1,wF _ _ _⟩
     ·exact ih.co _ _ _ _ _ h
  ·rw[iB] at h
   obtain⟨x1,k1,n1,e1,h⟩:=PR.bind_okE h
   obtain⟨x2,k2,n2,e2,h⟩:=PR.bind_okE h
   obtain⟨x3,k3,n3,e3,h⟩:=PR.bind_okE h
   obtain⟨x4,k4,n4,e4,h⟩:=PR.bind_okE h
   obtain⟨x5,k5,n5,e5,h⟩:=PR.bind_okE h
   injection h with h1 h2 _
   subst h1 h2
   have a:=ih.ei _ _ _ _ _ e4
   exact⟨(zH e1 ho).trans ((UE e2).trans ((uF W (by decide) e3).trans (a.1.trans (II W (by decide) e5)))),GK a.2 _ _ _⟩
  ·rw[DC] at h
   obtain⟨x1,k1,n1,e1,h⟩:=PR.bind_okE h
   split at h
   ·rename_i hi
    obtain⟨x2,k2,n2,e2,h⟩:=PR.bind_okE h
    injection h with h1 h2 _
    subst h1 h2
    have a:=ih.su _ _ _ _ _ e1
    have b:=ih.su _ _ _ _ _ e2
    exact⟨a.1.trans ((W.ok rfl (cW hi)).one.trans b.1),mJ a.2 b.2 _ _ _⟩
   ·cases h
  ·rw[GC] at h
   obtain⟨x1,k1,n1,e1,h⟩:=PR.bind_okE h
   have a:=ih.pa _ _ _ _ _ e1
   have b:=ih.sl _ _ _ _ _ _ a.2 h
   exact⟨a.1.trans b.1,b.2⟩
  ·rw[UA] at h
   split at h
   ·rename_i hi
    obtain⟨x1,k1,n1,e1,h⟩:=PR.bind_okE h
    have a:=ih.pa _ _ _ _ _ e1
    have b:=ih.sl _ _ _ _ _ _ (mJ hy a.2 _ _ _) h
    exact⟨(hi.elim (fun q=>W.is q (by decide)) fun q=>W.is q (by decide)).one.trans (a.1.trans b.1),b.2⟩
   ·injection h with h1 h2 _
    subst h1 h2
    exact⟨Sp.refl _ _,hy⟩
  ·rw[fC] at h
   obtain⟨x1,k1,n1,e1,h⟩:=PR.bind_okE h
   have a:=ih.fa _ _ _ _ _ e1
   have b:=ih.pl _ _ _ _ _ _ a.2 h
   exact⟨a.1.trans b.1,b.2⟩
  ·rw[IA] at h
   split at h
   ·rename_i hi
    obtain⟨x1,k1,n1,e1,h⟩:=PR.bind_okE h
    have b:=ih.pl _ _ _ _ _ _ (GK hy _ _ _) h
    exact⟨(W.is hi (by decide)).one.trans ((oV W e1).trans b.1),b.2⟩
   ·injection h with h1 h2 _
    subst h1 h2
    exact⟨Sp.refl _ _,hy⟩
  ·rw[mB] at h
   split at h
   ·obtain⟨x1,k1,n1,e1,h⟩:=PR.bind_okE h
    injection h with h1 h2 _
    subst h1 h2
    exact⟨BL e1,wF _ _ _⟩
   ·split at h
    ·rename_i hi
     obtain⟨x1,k1,n1,e1,h⟩:=PR.bind_okE h
     injection h with h1 h2 _
     subst h1 h2
     exact⟨(W.is hi (by decide)).one.trans (UE e1),wF _ _ _⟩
    ·split at h
     ·rename_i hi
      have a:=vT W h
      exact⟨(W.is hi (by decide)).one.trans a.1,a.2⟩
     ·split at h
      ·rename_i hi
       exact ih.gr _ _ _ _ _ (hi.elim (fun q=>W.is q (by decide)) fun q=>W.is q (by decide)) h
      ·split at h
       ·rename_i hi
        obtain⟨x1,k1,n1,e1,h⟩:=PR.bind_okE h
        obtain⟨x2,k2,n2,e2,h⟩:=PR.bind_okE h
        obtain⟨x3,k3,n3,e3,h⟩:=PR.bind_okE h
        injection h with h1 h2 _
        subst h1 h2
        have a:=ih.su _ _ _ _ _ e2
        exact⟨(zH e1 (W.is hi (by decide))).trans (a.1.trans (II W (by decide) e3)),a.2⟩
       ·obtain⟨x1,k1,n1,e1,h⟩:=PR.bind_okE h
        injection h with h1 h2 _
        subst h1 h2
        exact⟨UE e1,wF _ _ _⟩
  ·rw[KB] at h
   obtain⟨x1,k1,n1,e1,h⟩:=PR.bind_okE h
   obtain⟨x2,k2,n2,e2,h⟩:=PR.bind_okE h
   obtain⟨x3,k3,n3,e3,h⟩:=PR.bind_okE h
   obtain⟨x4,k4,n4,e4,h⟩:=PR.bind_okE h
   obtain⟨x5,k5,n5,e5,h⟩:=PR.bind_okE h
   obtain⟨x6,k6,n6,e6,h⟩:=PR.bind_okE h
   injection h with h1 h2 _
   subst h1 h2
   have a:=ih.su _ _ _ _ _ e3
   have b:=ih.su _ _ _ _ _ e5
   exact⟨(zH e1 ho).trans ((uF W (by decide) e2).trans (a.1.trans ((uF W (by decide) e4).trans (b.1.trans (II W (by decide) e6))))),mJ a.2 b.2 _ _ _⟩
theorem oR{ls:List ByteArray}{s:ByteArray}{i:Nat}(h:iA ls s=some i):s∈ls:=by
 unfold iA at h
 obtain⟨hi,h1,_⟩:=List.findIdx?_eq_some_iff_getElem.1 h
 have h2:=(wC _ _).1 h1
 rw[←h2]
 exact List.getElem_mem hi
theorem nS{L:List Tok}{ls:List ByteArray}(hl:∀s,s∈ls→s.size≤24){k i:Nat}(hk:(cA L k).kind=.w)(h:iA ls (cA L k).text=some i):OkT L k:=
 ⟨fun q=>(by rw[hk] at q;cases q),fun _=>hl _ (oR h),fun q=>(by rw[hk] at q;cases q),ON (fun q=>(by rw[hk] at q;cases q))⟩
theorem CQ{L:List Tok}{ls:List ByteArray}(hl:∀s,s∈ls→s.size≤24){k n k' n' i:Nat}(e:OC L ls k n=.ok i k' n'):Sp L k k':=by
 unfold OC at e
 split at e
 ·rename_i hk
  split at e
  ·cases e
  ·rename_i j hj
   injection e with _ e _
   subst e
   exact(nS hl hk hj).one
 ·cases e
theorem WO{L:List Tok}{ls:List ByteArray}(hl:∀s,s∈ls→s.size≤24)(o:Int)(k:Nat):Sp L k (XC L ls o k).2:=by
 unfold XC
 split
 ·rename_i hk
  split
  ·exact Sp.refl _ _
  ·rename_i j hj
   exact(nS hl hk hj).one
 ·exact Sp.refl _ _
theorem oQ{L:List Tok}{k n k' n' i:Nat}(e:DD L k n=.ok i k' n'):Sp L k k':=by
 unfold DD at e
 split at e
 ·rename_i hi
  injection e with _ e _
  subst e
  exact OkT.one ⟨fun q=>(by rw[hi.1] at q;cases q),fun q=>(by rw[hi.1] at q;cases q),fun _=>hi.2.2.1,ON (fun q=>(by rw[hi.1] at q;cases q))⟩
 ·cases e
theorem bU{L:List Tok}(W:WfL L){k n k' n':Nat}{x:Bool×ByteArray}(e:GH L k n=.ok x k' n'):Sp L k k':=by
 unfold GH at e
 obtain⟨x1,k1,n1,e1,e⟩:=PR.bind_okE e
 injection e with _ e _
 subst e
 have a:=UE e1
 split at a
 ·rename_i hi
  exact(W.is hi (by decide)).one.trans a
 ·exact a
theorem PP{L:List Tok}(W:WfL L){f k n k' n':Nat}{x:Nd}(e:iF L f k n=.ok x k' n'):Sp L k k'∧SmallN x:=by
 unfold iF at e
 split at e
 ·rename_i hi
  have a:=(DK W f).ei _ _ _ _ _ e
  exact⟨(W.is hi (by decide)).one.trans a.1,a.2⟩
 ·injection e with e1 e2 _
  subst e1 e2
  exact⟨Sp.refl _ _,wF _ _ _⟩
theorem CN{L:List Tok}(W:WfL L):∀(f:Nat) (l:List ByteArray) (k n:Nat) (x:List ByteArray) (k' n':Nat),YD L f l k n=.ok x k' n'→Sp L k k'∧x.length+k≤l.length+k'
 |0,l,k,n,x,k',n',h=>by cases h
 |f+1,l,k,n,x,k',n',h=>by
  rw[YD] at h
  split at h
  ·rename_i hi
   obtain⟨x1,k1,n1,e1,h⟩:=PR.bind_okE h
   have a:=UE e1
   have b:=CN W f _ _ _ _ _ _ h
   have h1:=a.1
   have h2:=b.2
   simp only[List.length_append,List.length_singleton] at h2
   exact⟨(W.is hi (by decide)).one.trans (a.trans b.1),by omega⟩
  ·injection h with e1 e2 _
   subst e1 e2
   exact⟨Sp.refl _ _,nR _⟩
theorem jR{L:List Tok}(W:WfL L):∀(f:Nat) (l:List ByteArray) (k n:Nat) (x:List ByteArray) (k' n':Nat),CF L f l k n=.ok x k' n'→Sp L k k'∧x.length+k≤l.length+k'
 |0,l,k,n,x,k',n',h=>by cases h
 |f+1,l,k,n,x,k',n',h=>by
  rw[CF] at h
  split at h
  ·rename_i hi
   obtain⟨x1,k1,n1,e1,h⟩:=PR.bind_okE h
   obtain⟨x2,k2,n2,e2,h⟩:=PR.bind_okE h
   obtain⟨x3,k3,n3,e3,h⟩:=PR.bind_okE h
   have a:=uF W (by decide) e1
   have b:=UE e2
   have c:=CN W _ _ _ _ _ _ _ e3
   have d:=jR W f _ _ _ _ _ _ h
   have h1:=a.1
   have h2:=b.1
   have h3:=c.2
   have h4:=d.2
   simp only[List.length_append,List.length_singleton] at h3
   exact⟨(W.is hi (by decide)).one.trans (a.trans (b.trans (c.1.trans d.1))),by omega⟩
  ·injection h with e1 e2 _
   subst e1 e2
   exact⟨Sp.refl _ _,nR _⟩
theorem FU{L:List Tok}(W:WfL L){f k n k' n':Nat}{s x:SentW}(hc:SmallN s.cond)(hs:SmallN s.sum)(ho:s.over=[])(e:DE L f s k n=.ok x k' n'):Sp L k k'∧SmallN x.cond∧SmallN x.sum∧x.over.length≤k':=by
 have z:s.over.length≤k':=by rw[ho];exact Nat.zero_le _
 unfold DE at e
 split at e
 ·obtain⟨x1,k1,n1,e1,e⟩:=PR.bind_okE e
  injection e with e e2 _
  subst e e2
  have a:=(DK W f).ei _ _ _ _ _ e1
  exact⟨a.1,a.2,hs,z⟩
 ·split at e
  ·obtain⟨x1,k1,n1,e1,e⟩:=PR.bind_okE e
   injection e with e e2 _
   subst e e2
   unfold UG at e1
   obtain⟨y1,j1,m1,q1,e1⟩:=PR.bind_okE e1
   obtain⟨y2,j2,m2,q2,e1⟩:=PR.bind_okE e1
   obtain⟨y3,j3,m3,q3,e1⟩:=PR.bind_okE e1
   injection e1 with e1 e2 _
   subst e1 e2
   have a:=bU W q1
   have b:=PP W q2
   have c:=jR W _ _ _ _ _ _ _ q3
   have h1:=c.2
   simp only[List.length_nil] at h1
   exact⟨a.trans (b.1.trans c.1),b.2,hs,(by show y3.length≤_;omega)⟩
  ·split at e
   ·obtain⟨x1,k1,n1,e1,e⟩:=PR.bind_okE e
    injection e with e e2 _
    subst e e2
    unfold fE at e1
    obtain⟨y1,j1,m1,q1,e1⟩:=PR.bind_okE e1
    obtain⟨y2,j2,m2,q2,e1⟩:=PR.bind_okE e1
    have a:=(DK W f).su _ _ _ _ _ q1
    have b:=PP W q2
    split at e1
    ·rename_i hi
     obtain⟨y3,j3,m3,q3,e1⟩:=PR.bind_okE e1
     obtain⟨y4,j4,m4,q4,e1⟩:=PR.bind_okE e1
     injection e1 with e1 e2 _
     subst e1 e2
     exact⟨a.1.trans (b.1.trans ((W.is hi (by decide)).one.trans ((uF W (by decide) q3).trans (CQ (by decide) q4)))),b.2,a.2,z⟩
    ·injection e1 with e1 e2 _
     subst e1 e2
     exact⟨a.1.trans b.1,b.2,a.2,z⟩
   ·split at e
    ·obtain⟨x1,k1,n1,e1,e⟩:=PR.bind_okE e
     injection e with e e2 _
     subst e e2
     unfold wI at e1
     obtain⟨y1,j1,m1,q1,e1⟩:=PR.bind_okE e1
     obtain⟨y2,j2,m2,q2,e1⟩:=PR.bind_okE e1
     obtain⟨y3,j3,m3,q3,e1⟩:=PR.bind_okE e1
     obtain⟨y4,j4,m4,q4,e1⟩:=PR.bind_okE e1
     obtain⟨y5,j5,m5,q5,e1⟩:=PR.bind_okE e1
     obtain⟨y6,j6,m6,q6,e1⟩:=PR.bind_okE e1
     injection e1 with e1 e2 _
     subst e1 e2
     have r5:Sp L j4 j5:=by
      unfold jJ at q5
      split at q5
      ·rename_i hi
       exact(W.is hi (by decide)).one.trans (CQ (by decide) q5)
      ·injection q5 with _ q5 _
       subst q5
       exact Sp.refl _ _
     have r6:Sp L j5 j6:=by
      unfold pJ at q6
      split at q6
      ·rename_i hi
       exact(W.is hi (by decide)).one.trans (UE q6)
      ·injection q6 with _ q6 _
       subst q6
       exact Sp.refl _ _
     exact⟨(bU W q1).trans ((uF W (by decide) q2).trans ((oQ q3).trans ((CQ (by decide) q4).trans (r5.trans r6)))),hc,hs,z⟩
    ·injection e with e e2 _
     subst e e2
     exact⟨Sp.refl _ _,hc,hs,z⟩
theorem AR{L:List Tok}(W:WfL L){f k n:Nat}{x:SentW}(e:mD L f 0 0=.ok x k n):Sp L 1 k∧(cA L k).kind=.e∧SmallN x.cond∧SmallN x.sum∧x.over.length≤k:=by
 unfold mD at e
 obtain⟨x1,k1,n1,e1,e⟩:=PR.bind_okE e
 obtain⟨x2,k2,n2,e2,e⟩:=PR.bind_okE e
 obtain⟨x3,k3,n3,e3,e⟩:=PR.bind_okE e
 split at e
 ·rename_i hk
  injection e with e q _
  subst e q
  have a:Sp L 1 k1:=UE e1
  have b:=uF W (by decide) e2
  have c:=FU W (wF _ _ _) (wF _ _ _) rfl e3
  have d:Sp L k1 (LC L (cA L 0).text k1).2:=by
   unfold LC
   split
   ·exact WO (by decide) _ _
   ·exact Sp.refl _ _
  exact⟨a.trans (d.trans (b.trans c.1)),hk,c.2⟩
 ·cases e
section
variable {t:Tok} {M:List Tok}
theorem iI(g:GoodL M){k n k' n':Nat}{x:ByteArray}(e:oB (t::M) (k+1) n=.ok x k' n'):k'=k+1+1∧n'=n∧uB M k n=.ok x (k+1) n:=by
 rw[RF] at e
 obtain⟨j,q,rfl⟩:=dO e
 obtain⟨a,rfl,rfl,_⟩:=g.name q
 exact⟨rfl,rfl,a⟩
theorem uK(g:GoodL M){s:ByteArray}(hs:s.toList≠[]){k n k' n':Nat}{x:Unit}(e:bB (t::M) s (k+1) n=.ok x k' n'):k'=k+1+1∧n'=n∧oA M s k n=.ok () (k+1) n:=by
 rw[TF] at e
 obtain⟨j,q,rfl⟩:=dO e
 obtain⟨a,rfl,rfl⟩:=g.need hs q n
 exact⟨rfl,rfl,a⟩
theorem GE(g:GoodL M){s:ByteArray}(hs:s.toList≠[]){k:Nat}(n:Nat)(h:YB (t::M) s (k+1)=true):yB M s k n=.ok true (k+1) n:=by
 rw[g.take hs,if_pos (show YB M s k=true from h)]
theorem TD(g:GoodL M){s:ByteArray}(hs:s.toList≠[]){k:Nat}(n:Nat)(h:¬YB (t::M) s (k+1)=true):yB M s k n=.ok false k n:=by
 rw[g.take hs,if_neg (show ¬YB M s k=true from h)]
theorem cL(g:GoodL M){f k n k' n':Nat}{x:Nd}(e:FA (t::M) f (k+1) n=.ok x k' n'):∃j,k'=j+1∧n'=n∧∀m,f+8≤m→zA M m k n=.ok x j n:=by
 rw[(BR t M f).ei] at e
 obtain⟨j,q,rfl⟩:=dO e
 obtain rfl:=(YF M f).ei _ _ _ _ _ q
 exact⟨j,rfl,rfl,fun m hm=>(EW g f).eith _ _ _ _ _ _ hm q⟩
theorem pW(g:GoodL M){f k n k' n':Nat}{x:Nd}(e:GC (t::M) f (k+1) n=.ok x k' n'):∃j,k'=j+1∧n'=n∧∀m,f+8≤m→IB M m k n=.ok x j n:=by
 rw[(BR t M f).su] at e
 obtain⟨j,q,rfl⟩:=dO e
 obtain rfl:=(YF M f).su _ _ _ _ _ q
 exact⟨j,rfl,rfl,fun m hm=>(EW g f).sum _ _ _ _ _ _ hm q⟩
theorem cS:wIf.toList≠[]:=by unfold wIf;rw[Lib.toList_data];simp
theorem fS:wOver.toList≠[]:=by unfold wOver;rw[Lib.toList_data];simp
theorem lH:wStrict.toList≠[]:=by unfold wStrict;rw[Lib.toList_data];simp
theorem dG:wDefeater.toList≠[]:=by unfold wDefeater;rw[Lib.toList_data];simp
theorem OP(g:GoodL M){f k n k' n':Nat}{x:Nd}(e:iF (t::M) f (k+1) n=.ok x k' n'):∃j,k'=j+1∧n'=n∧∀m,f+8≤m→tH M m k n=.ok x j n:=by
 unfold iF at e
 split at e
 ·rename_i hi
  obtain⟨j,rfl,rfl,h⟩:=cL g e
  exact⟨j,rfl,rfl,fun m hm=>by
   unfold tH
   rw[GE g cS _ hi]
   exact h m hm⟩
 ·rename_i hi
  injection e with e1 e2 e3
  subst e1 e2 e3
  exact⟨k,rfl,rfl,fun m _=>by
   unfold tH
   rw[TD g cS _ hi]
   rfl⟩
theorem aU(g:GoodL M){k n k' n':Nat}{x:Bool×ByteArray}(e:GH (t::M) (k+1) n=.ok x k' n'):∃j,k'=j+1∧n'=n∧MO M k n=.ok x j n:=by
 unfold GH at e
 obtain⟨x1,k1,n1,e1,e⟩:=PR.bind_okE e
 injection e with e e2 e3
 subst e e2 e3
 unfold MO
 by_cases hi:YB (t::M) wNot (k+1)=true
 ·rw[if_pos hi] at e1
  obtain⟨rfl,rfl,h⟩:=iI g e1
  refine⟨_,rfl,rfl,?_⟩
  rw[GE g NG n1 hi,PR.bind_ok,h,hi]
  rfl
 ·rw[if_neg hi] at e1
  obtain⟨rfl,rfl,h⟩:=iI g e1
  refine⟨_,rfl,rfl,?_⟩
  rw[TD g NG n1 hi,PR.bind_ok,h,Bool.eq_false_iff.2 hi]
  rfl
theorem BQ(g:GoodL M){ls:List ByteArray}{k n k' n' i:Nat}(e:OC (t::M) ls (k+1) n=.ok i k' n'):k'=k+1+1∧n'=n∧aE M ls k n=.ok i (k+1) n∧iA ls (cA M k).text=some i∧(cA M k).kind=.w:=by
 unfold OC at e
 rw[gN] at e
 split at e
 ·rename_i hk
  split at e
  ·cases e
  ·rename_i j hj
   injection e with e1 e2 e3
   subst e1 e2 e3
   refine⟨rfl,rfl,?_,hj,hk⟩
   unfold aE
   rw[if_pos hk,hj]
   show (pA M k n).bind _=_
   rw[g.step n (g.word hk)]
   rfl
 ·cases e
theorem BN(g:GoodL M):∀(f:Nat) (l:List ByteArray) (k n:Nat) (x:List ByteArray) (k' n':Nat),YD (t::M) f l (k+1) n=.ok x k' n'→∃j,k'=j+1∧n'=n∧∀m,f≤m→rD M m l k n=.ok x j n
 |0,l,k,n,x,k',n',h=>by cases h
 |f+1,l,k,n,x,k',n',h=>by
  rw[YD] at h
  split at h
  ·rename_i hi
   obtain⟨x1,k1,n1,e1,h1⟩:=PR.bind_okE h
   clear h
   obtain⟨rfl,rfl,a⟩:=iI g e1
   obtain⟨j,rfl,rfl,b⟩:=BN g f _ _ _ _ _ _ h1
   refine⟨j,rfl,rfl,fun m hm=>?_⟩
   obtain⟨m,rfl⟩:∃q,m=q+1:=⟨m - 1,by omega⟩
   rw[rD,GE g (OA 44) _ hi,PR.bind_ok,if_pos rfl,a,PR.bind_ok]
   exact b m (by omega)
  ·rename_i hi
   injection h with e1 e2 e3
   subst e1 e2 e3
   refine⟨k,rfl,rfl,fun m hm=>?_⟩
   obtain⟨m,rfl⟩:∃q,m=q+1:=⟨m - 1,by omega⟩
   rw[rD,TD g (OA 44) _ hi]
   rfl
theorem iR(g:GoodL M):∀(f:Nat) (l:List ByteArray) (k n:Nat) (x:List ByteArray) (k' n':Nat),CF (t::M) f l (k+1) n=.ok x k' n'→∃j,k'=j+1∧n'=n∧∀m,f≤m→jD M m l k n=.ok x j n
 |0,l,k,n,x,k',n',h=>by cases h
 |f+1,l,k,n,x,k',n',h=>by
  rw[CF] at h
  split at h
  ·rename_i hi
   obtain⟨x1,k1,n1,e1,h1⟩:=PR.bind_okE h
   obtain⟨x2,k2,n2,e2,h2⟩:=PR.bind_okE h1
   obtain⟨x3,k3,n3,e3,h3⟩:=PR.bind_okE h2
   clear h h1 h2
   obtain⟨rfl,rfl,a⟩:=uK g fS e1
   obtain⟨rfl,rfl,b⟩:=iI g e2
   obtain⟨j,rfl,rfl,c⟩:=BN g f _ _ _ _ _ _ e3
   obtain⟨i,rfl,rfl,d⟩:=iR g f _ _ _ _ _ _ h3
   refine⟨i,rfl,rfl,fun m hm=>?_⟩
   obtain⟨m,rfl⟩:∃q,m=q+1:=⟨m - 1,by omega⟩
   rw[jD,GE g (OA 59) _ hi,PR.bind_ok,if_pos rfl,show oA M wOver _ _=_ from a,PR.bind_ok,b,PR.bind_ok,c m (by omega),PR.bind_ok]
   exact d m (by omega)
  ·rename_i hi
   injection h with e1 e2 e3
   subst e1 e2 e3
   refine⟨k,rfl,rfl,fun m hm=>?_⟩
   obtain⟨m,rfl⟩:∃q,m=q+1:=⟨m - 1,by omega⟩
   rw[jD,TD g (OA 59) _ hi]
   rfl
theorem iQ:∀(l:List UInt8) (n:Nat),l.any (·==46)=false→zD l n false=(kG l n,false)
 | [],n,_=>rfl
 |c::l,n,h=>by
  rw[List.any_cons,Bool.or_eq_false_iff] at h
  have hc:c≠46:=fun e=>by rw[e] at h;exact absurd h.1 (by decide)
  rw[zD,if_neg hc,iQ l _ h.2]
  rfl
theorem xV(g:GoodL M){k n k1 n1 k2 n2 k3 n3 v u r:Nat}(e1:DD (t::M) (k+1) n=.ok v k1 n1)(e2:OC (t::M) unitsW k1 n1=.ok u k2 n2)(e3:jJ (t::M) k2 n2=.ok r k3 n3):∃j,k3=j+1∧n3=n∧VJ M k n=.ok (v,u,r) j n:=by
 unfold DD at e1
 rw[gN] at e1
 split at e1
 ·rename_i hi
  injection e1 with q1 q2 q3
  subst q1 q2 q3
  obtain⟨h1,h2,h3,h4⟩:=hi
  obtain⟨rfl,rfl,a,_⟩:=BQ g e2
  have hh:CC (cA M k).text / 100=kG (cA M k).text.data.toList 0:=by
   unfold CC
   rw[iQ _ _ h2]
   simp only[Bool.false_eq_true,if_false]
   omega
  have ht:(cA M k).text.toList≠[]:=by
   obtain⟨c,r,e,_⟩:=g.fn k h1
   rw[e]
   simp
  unfold jJ at e3
  unfold VJ
  rw[if_neg (by rw[h1,h2];simp),hh,if_neg (by omega),g.step _ ht,PR.bind_ok,a,PR.bind_ok]
  split at e3
  ·rename_i hi
   rw[GE g (OA 44) _ hi,PR.bind_ok,if_pos rfl]
   obtain⟨rfl,rfl,_,hp,hk⟩:=BQ g e3
   have hne:vA ⟨#[]⟩ (cA M (k+1+1+1)).text=false:=by
    rw[Bool.eq_false_iff]
    intro q
    have:=(wC _ _).1 q
    apply g.word hk
    rw[←this,Lib.toList_data]
   unfold rollsQ iA at hp
   rw[List.findIdx?_cons,hne] at hp
   simp only[Bool.false_eq_true,if_false,Option.map_eq_some_iff] at hp
   obtain⟨i,hp,rfl⟩:=hp
   have hp:iA kJ (cA M (k+1+1+1)).text=some i:=hp
   refine⟨_,rfl,rfl,?_⟩
   have ho:∀n,aE M kJ (k+1+1+1) n=.ok i (k+1+1+1+1) n:=fun n=>by
    unfold aE
    rw[if_pos hk,hp]
    show (pA M _ n).bind _=_
    rw[g.step n (g.word hk)]
    rfl
   rw[ho]
   rfl
  ·rename_i hi
   injection e3 with q1 q2 q3
   subst q1 q2 q3
   refine⟨_,rfl,rfl,?_⟩
   rw[TD g (OA 44) _ hi]
   rfl
 ·cases e1
theorem FR(g:GoodL M)(hs:∀k,(cA M k).kind=.s→∃c r,(cA M k).text.toList=c::r∧PB c=false){kind:ByteArray}{k n:Nat}:∃j,(LC (t::M) kind (k+1)).2=j+1∧(if vA kind wRule=true then FG M k n else .ok 0 k n)=.ok (LC (t::M) kind (k+1)).1.toNat j n:=by
 unfold LC
 split
 ·unfold XC FG
  rw[gN]
  by_cases hk:(cA M k).kind=.w
  ·rw[if_pos hk]
   have ht:=g.word hk
   have hne:vA ⟨#[]⟩ (cA M k).text=false:=by
    rw[Bool.eq_false_iff]
    intro q
    have:=(wC _ _).1 q
    apply ht
    rw[←this,Lib.toList_data]
   have sym:∀a b:ByteArray,vA a b=vA b a:=fun a b=>by
    rw[Bool.eq_iff_iff,wC,wC]
    exact eq_comm
   by_cases h1:YB M wStrict k=true
   ·have hp:iA strengthsQ (cA M k).text=some 0:=by
     unfold strengthsQ iA
     rw[List.findIdx?_cons,sym,show vA (cA M k).text wStrict=true from h1]
     rfl
    rw[hp]
    refine⟨_,rfl,?_⟩
    rw[GE (t:=t) g lH n h1]
    rfl
   ·have h1':vA wStrict (cA M k).text=false:=by rw[sym];exact Bool.eq_false_iff.2 h1
    rw[TD (t:=t) g lH n h1,PR.bind_ok,if_neg (by decide)]
    by_cases h2:YB M wDefeater k=true
    ·have hp:iA strengthsQ (cA M k).text=some 2:=by
      unfold strengthsQ iA
      rw[List.findIdx?_cons,h1',List.findIdx?_cons,hne,List.findIdx?_cons,sym,show vA (cA M k).text wDefeater=true from h2]
      rfl
     rw[hp]
     refine⟨_,rfl,?_⟩
     rw[GE (t:=t) g dG n h2]
     rfl
    ·have h2':vA wDefeater (cA M k).text=false:=by rw[sym];exact Bool.eq_false_iff.2 h2
     have hp:iA strengthsQ (cA M k).text=none:=by
      unfold strengthsQ iA
      rw[List.findIdx?_cons,h1',List.findIdx?_cons,hne,List.findIdx?_cons,h2']
      rfl
     rw[hp]
     refine⟨_,rfl,?_⟩
     rw[TD (t:=t) g dG n h2]
     rfl
  ·rw[if_neg hk]
   have no:∀(s:ByteArray),(∃c r,s.toList=c::r∧PB c=true)→¬YB M s k=true:=fun s ⟨c,r,es,hc⟩ q=>by
    have e:=oC q
    rw[es] at e
    rcases hkk:(cA M k).kind with _|_|_|_|_
    ·exact hk hkk
    ·obtain⟨c1,r1,e1,h1⟩:=g.fn k hkk
     rw[e] at e1
     injection e1 with e1 _
     subst e1
     unfold PB at hc
     unfold lA at h1
     simp only[Bool.and_eq_true,decide_eq_true_eq] at hc h1
     omega
    ·obtain⟨c1,r1,e1,h1⟩:=hs k hkk
     rw[e] at e1
     injection e1 with e1 _
     subst e1
     rw[hc] at h1
     cases h1
    ·rw[g.tx k hkk] at e;cases e
    ·exact g.nb k hkk
   refine⟨_,rfl,?_⟩
   rw[TD (t:=t) g lH n (no wStrict ⟨115,_,by unfold wStrict;rw[Lib.toList_data],by decide⟩),PR.bind_ok,if_neg (by decide),TD (t:=t) g dG n (no wDefeater ⟨100,_,by unfold wDefeater;rw[Lib.toList_data],by decide⟩)]
   rfl
 ·exact⟨k,rfl,rfl⟩
end
structure WfT(t:Tok):Prop where
 b:t.kind=.b→∃c r,t.text.toList=c::r∧PB c=false∧lA c=false∧signsL.contains c=false
 w:t.kind=.w→∃c r,t.text.toList=c::r∧PB c=true
 n:t.kind=.n→∃c r,t.text.toList=c::r∧lA c=true
 s:t.kind=.s→∃c r,t.text.toList=c::r∧PB c=false
theorem dP(c:UInt8)(r:List UInt8)(p:Nat):WfT (VC (c::r) p):=by
 have h1:=DF (c::r)
 have ht:∃q,(VC (c::r) p).text.toList=c::q:=by
  unfold VC
  obtain⟨m,hm⟩:∃m,(wA (c::r)).2=m+1:=⟨(wA (c::r)).2 - 1,by omega⟩
  rw[Lib.toList_data]
  show ∃q,(c::r).take (wA (c::r)).2=c::q
  rw[hm]
  exact⟨_,rfl⟩
 obtain⟨q,ht⟩:=ht
 have hk:(VC (c::r) p).kind=(wA (c::r)).1:=rfl
 rw[PC] at hk
 by_cases hl:PB c=true
 ·rw[if_pos hl] at hk
  exact⟨fun e=>(by rw[hk] at e;cases e),fun _=>⟨c,q,ht,hl⟩,fun e=>(by rw[hk] at e;cases e),fun e=>(by rw[hk] at e;cases e)⟩
 ·rw[if_neg hl] at hk
  have hl:=Bool.eq_false_iff.2 hl
  by_cases hn:lA c=true
  ·rw[if_pos hn] at hk
   exact⟨fun e=>(by rw[hk] at e;cases e),fun e=>(by rw[hk] at e;cases e),fun _=>⟨c,q,ht,hn⟩,fun e=>(by rw[hk] at e;cases e)⟩
  ·rw[if_neg hn] at hk
   by_cases hs:EA (c::r)=0
   ·rw[if_pos hs] at hk
    refine⟨fun _=>⟨c,q,ht,hl,Bool.eq_false_iff.2 hn,?_⟩,fun e=>(by rw[hk] at e;cases e),fun e=>(by rw[hk] at e;cases e),fun e=>(by rw[hk] at e;cases e)⟩
    rw[Bool.eq_false_iff]
    intro hc
    unfold EA at hs
    split at hs
    ·cases hs
    ·simp only[hc,if_true] at hs
     cases hs
   ·rw[if_neg hs] at hk
    exact⟨fun e=>(by rw[hk] at e;cases e),fun e=>(by rw[hk] at e;cases e),fun e=>(by rw[hk] at e;cases e),fun _=>⟨c,q,ht,hl⟩⟩
theorem zM(p:Nat):WfT ⟨.e,⟨#[]⟩,p,0⟩:=⟨fun e=>(by cases e),fun e=>(by cases e),fun e=>(by cases e),fun e=>(by cases e)⟩
theorem tG:∀(f:Nat) (l:List UInt8) (p:Nat) (t:Tok),t∈DB f l p→WfT t
 |0,l,p,t,h=>by
  rw[DB] at h
  rw[List.mem_singleton.1 h]
  exact zM _
 |f+1,[],p,t,h=>by
  rw[DB] at h
  rw[List.mem_singleton.1 h]
  exact zM _
 |f+1,c::r,p,t,h=>by
  rw[DB] at h
  split at h
  ·exact tG f _ _ _ h
  ·rcases List.mem_cons.1 h with rfl|h
   ·exact dP c r p
   ·exact tG f _ _ _ h
theorem KG(L:List Tok)(k:Nat):(∃t,L[k]?=some t∧cA L k=t)∨(L.length≤k∧cA L k=YP):=by
 unfold cA
 cases h:L[k]? with
 |none=>exact .inr ⟨List.getElem?_eq_none_iff.1 h,rfl⟩
 |some t=>exact .inl ⟨t,rfl,rfl⟩
theorem sN{L:List Tok}(h:∀t,t∈L→WfT t):WfL L:=by
 have hk:∀k,WfT (cA L k):=fun k=>by
  rcases KG L k with ⟨t,h1,h2⟩|⟨_,h2⟩
  ·rw[h2];exact h t (List.mem_of_getElem? h1)
  ·rw[h2];exact zM 0
 exact⟨fun k=>(hk k).b,fun k=>(hk k).w,fun k=>(hk k).n,fun k=>(hk k).s⟩
theorem kE{a b:ByteArray}(h:a.data.toList≠b.data.toList):¬vA a b=true:=fun e=>h (by rw[(wC a b).1 e])
theorem kY(a:ByteArray):vA a a=true:=(wC a a).2 rfl
theorem FT{M:List Tok}(g:GoodL M)(hs:∀k,(cA M k).kind=.s→∃c r,(cA M k).text.toList=c::r∧PB c=false){K:ByteArray}(hK:K=wDefine∨K=wRule∨K=wAmount∨K=wDuty){f k n:Nat}{x:SentW}(e:mD (⟨.w,K,0,0⟩::M) f 0 0=.ok x k n):x.kind=K∧∃j,∀m,f+8≤m→uJ M m K=.ok x j 0:=by
 unfold mD at e
 obtain⟨x1,k1,n1,e1,q1⟩:=PR.bind_okE e
 obtain⟨x2,k2,n2,e2,q2⟩:=PR.bind_okE q1
 obtain⟨x3,k3,n3,e3,q3⟩:=PR.bind_okE q2
 clear e q1 q2
 split at q3
 ·rename_i hke
  injection q3 with z1 z2 z3
  subst z1 z2 z3
  have e1:oB (⟨.w,K,0,0⟩::M) (0+1) 0=.ok x1 k1 n1:=e1
  obtain⟨rfl,rfl,a1⟩:=iI g e1
  have e0:(cA (⟨.w,K,0,0⟩::M) 0).text=K:=rfl
  rw[e0] at e2 e3
  obtain⟨j1,hj,a2⟩:=FR (t:=⟨.w,K,0,0⟩) g hs (kind:=K) (k:=0+1) (n:=0)
  rw[hj] at e2
  obtain⟨rfl,rfl,a3⟩:=uK g (OA 58) e2
  generalize (LC (⟨.w,K,0,0⟩::M) K (0+1+1)).1.toNat=st at a2 e3
  have hsent:∀m y i q,(if vA K wDefine=true then (zA M m (j1+1) 0).bind fun x k n=>.ok {kind:=K,name:=x1,strength:=st,cond:=x} k n
   else if vA K wAmount=true then (IB M m (j1+1) 0).bind fun x k n=>(tH M m k n).bind fun c k n=>(yB M (sg 59) k n).bind fun b k n=>
    if b=true then (oA M AE k n).bind fun _ k n=>(aE M waysW k n).bind fun w k n=>.ok {kind:=K,name:=x1,strength:=st,sum:=x,cond:=c,way:=w} k n
    else .ok {kind:=K,name:=x1,strength:=st,sum:=x,cond:=c} k n
   else (MO M (j1+1) 0).bind fun l k n=>
    if vA K wRule=true then (tH M m k n).bind fun c k n=>(jD M m [] k n).bind fun o k n=>.ok {kind:=K,name:=x1,strength:=st,positive:=l.1,head:=l.2,cond:=c,over:=o} k n
    else (oA M ED k n).bind fun _ k n=>(VJ M k n).bind fun t k n=>(yB M dF k n).bind fun b k n=>
     if b=true then (uB M k n).bind fun x k n=>.ok {kind:=K,name:=x1,strength:=st,positive:=l.1,head:=l.2,tn:=t.1,tu:=t.2.1,tr:=t.2.2,els:=x} k n
     else .ok {kind:=K,name:=x1,strength:=st,positive:=l.1,head:=l.2,tn:=t.1,tu:=t.2.1,tr:=t.2.2} k n)=(.ok y i q:PR SentW)→FF M m K 0 0=.ok y i q:=fun m y i q h=>by
   unfold FF
   rw[a1,PR.bind_ok,a2,PR.bind_ok,show oA M (sg 58) j1 0=_ from a3,PR.bind_ok]
   exact h
  have hwhole:∀(m j:Nat),x3.kind=K→k3=j+1→FF M m K 0 0=.ok x3 j 0→uJ M m K=.ok x3 j 0:=fun m j _ hk h=>by
   unfold uJ
   rw[if_neg (g.nb 0),h,PR.bind_ok,if_pos]
   rw[hk] at hke
   exact hke
  unfold DE at e3
  dsimp only at e3
  rcases hK with rfl|rfl|rfl|rfl
  ·rw[if_pos (kY _)] at e3
   obtain⟨y,k,n,e4,e5⟩:=PR.bind_okE e3
   injection e5 with z1 z2 z3
   subst z1 z2 z3
   obtain⟨j,rfl,rfl,h⟩:=cL g e4
   refine⟨rfl,j,fun m hm=>hwhole m j rfl rfl (hsent _ _ _ _ ?_)⟩
   rw[if_pos (kY _),h m hm]
   rfl
  ·rw[if_neg (kE (by decide)),if_pos (kY _)] at e3
   obtain⟨y,k,n,e4,e5⟩:=PR.bind_okE e3
   injection e5 with z1 z2 z3
   subst z1 z2 z3
   unfold UG at e4
   obtain⟨y1,i1,m1,b1,r1⟩:=PR.bind_okE e4
   obtain⟨y2,i2,m2,b2,r2⟩:=PR.bind_okE r1
   obtain⟨y3,i3,m3,b3,r3⟩:=PR.bind_okE r2
   injection r3 with z1 z2 z3
   subst z1 z2 z3
   clear e4 r1 r2 e3
   obtain⟨p1,rfl,rfl,h1⟩:=aU g b1
   obtain⟨p2,rfl,rfl,h2⟩:=OP g b2
   obtain⟨p3,rfl,rfl,h3⟩:=iR g _ _ _ _ _ _ _ b3
   refine⟨rfl,p3,fun m hm=>hwhole m p3 rfl rfl (hsent _ _ _ _ ?_)⟩
   rw[if_neg (kE (by decide)),if_neg (kE (by decide)),h1,PR.bind_ok,if_pos (kY _),h2 m hm,PR.bind_ok,h3 m (by omega)]
   rfl
  ·rw[if_neg (kE (by decide)),if_neg (kE (by decide)),if_pos (kY _)] at e3
   obtain⟨y,k,n,e4,e5⟩:=PR.bind_okE e3
   injection e5 with z1 z2 z3
   subst z1 z2 z3
   unfold fE at e4
   obtain⟨y1,i1,m1,b1,r1⟩:=PR.bind_okE e4
   obtain⟨y2,i2,m2,b2,r2⟩:=PR.bind_okE r1
   clear e4 r1 e3
   obtain⟨p1,rfl,rfl,h1⟩:=pW g b1
   obtain⟨p2,rfl,rfl,h2⟩:=OP g b2
   split at r2
   ·rename_i hi
    obtain⟨y3,i3,m3,b3,r3⟩:=PR.bind_okE r2
    obtain⟨y4,i4,m4,b4,r4⟩:=PR.bind_okE r3
    injection r4 with z1 z2 z3
    subst z1 z2 z3
    clear r2 r3
    obtain⟨rfl,rfl,h3⟩:=uK g (by unfold AE;rw[Lib.toList_data];simp) b3
    obtain⟨rfl,rfl,h4,_⟩:=BQ g b4
    refine⟨rfl,_,fun m hm=>hwhole m _ rfl rfl (hsent _ _ _ _ ?_)⟩
    rw[if_neg (kE (by decide)),if_pos (kY _),h1 m hm,PR.bind_ok,h2 m hm,PR.bind_ok,GE g (OA 59) _ hi,PR.bind_ok,if_pos rfl,h3,PR.bind_ok,h4]
    rfl
   ·rename_i hi
    injection r2 with z1 z2 z3
    subst z1 z2 z3
    refine⟨rfl,_,fun m hm=>hwhole m _ rfl rfl (hsent _ _ _ _ ?_)⟩
    rw[if_neg (kE (by decide)),if_pos (kY _),h1 m hm,PR.bind_ok,h2 m hm,PR.bind_ok,TD g (OA 59) _ hi]
    rfl
  ·rw[if_neg (kE (by decide)),if_neg (kE (by decide)),if_neg (kE (by decide)),if_pos (kY _)] at e3
   obtain⟨y,k,n,e4,e5⟩:=PR.bind_okE e3
   injection e5 with z1 z2 z3
   subst z1 z2 z3
   unfold wI at e4
   obtain⟨y1,i1,m1,b1,r1⟩:=PR.bind_okE e4
   obtain⟨y2,i2,m2,b2,r2⟩:=PR.bind_okE r1
   obtain⟨y3,i3,m3,b3,r3⟩:=PR.bind_okE r2
   obtain⟨y4,i4,m4,b4,r4⟩:=PR.bind_okE r3
   obtain⟨y5,i5,m5,b5,r5⟩:=PR.bind_okE r4
   obtain⟨y6,i6,m6,b6,r6⟩:=PR.bind_okE r5
   injection r6 with z1 z2 z3
   subst z1 z2 z3
   clear e4 r1 r2 r3 r4 r5 e3
   obtain⟨p1,rfl,rfl,h1⟩:=aU g b1
   obtain⟨rfl,rfl,h2⟩:=uK g (by unfold ED;rw[Lib.toList_data];simp) b2
   obtain⟨p3,rfl,rfl,h3⟩:=xV g b3 b4 b5
   unfold pJ at b6
   split at b6
   ·rename_i hi
    obtain⟨rfl,rfl,h6⟩:=iI g b6
    refine⟨rfl,_,fun m hm=>hwhole m _ rfl rfl (hsent _ _ _ _ ?_)⟩
    rw[if_neg (kE (by decide)),if_neg (kE (by decide)),h1,PR.bind_ok,if_neg (kE (by decide)),h2,PR.bind_ok,h3,PR.bind_ok,GE g (by unfold dF;rw[Lib.toList_data];simp) _ hi,PR.bind_ok,if_pos rfl,h6]
    rfl
   ·rename_i hi
    injection b6 with z1 z2 z3
    subst z1 z2 z3
    refine⟨rfl,_,fun m hm=>hwhole m _ rfl rfl (hsent _ _ _ _ ?_)⟩
    rw[if_neg (kE (by decide)),if_neg (kE (by decide)),h1,PR.bind_ok,if_neg (kE (by decide)),h2,PR.bind_ok,h3,PR.bind_ok,TD g (by unfold dF;rw[Lib.toList_data];simp) _ hi]
    rfl
 ·cases q3
end Go.Proofs.YtehbinobohjadaaGreatDoor

import Derived.Test.YtpbolcjcmkmalaaGreatDoorAq00
import Derived.Test.YtpbolcjcmkmalaaGreatDoorRows
import Derived.Test.YtpbolcjcmkmalaaGreatDoorAq04
import Derived.LaidLaws
import Derived.LaidHandle
import Derived.Stop.LaidErr
import Derived.Test.YtpbolcjcmkmalaaGreatDoorAq08
import Derived.Test.YtpbolcjcmkmalaaGreatDoorAq11
import Derived.Test.YtpbolcjcmkmalaaGreatDoorAq15
import Derived.Deep.RegionLaw
import Derived.BigQuiet
import Derived.Test.YtpbolcjcmkmalaaGreatDoorAq03
import Derived.Deep.Upon
set_option maxHeartbeats 20000000
set_option maxRecDepth 20000
namespace Go.Proofs.YtpbolcjcmkmalaaGreatDoor
open Go.RowKit Go.ChangeShapes
def tP(t:List UInt8):DataW Unit:=.iface "*errors.errorString" (.ptr (.agg [.lit (.string t)]))
theorem Tryz.star: "*"++ "errors.errorString"= "*errors.errorString":=by decide
theorem Tryz.rowES(u:TypeId)(h:Tryz.prog.typeName? 3 u=some "*errors.errorString"):u=214:=
 typeName_ptr_named (nm:= "errors.errorString") (by rw[Tryz.star];kernel_rfl) (by kernel_rfl) (by decide) u (by rw[Tryz.star];exact h)
theorem Tryz.cellsES:Tryz.prog.cellsOf 234=1:=by kernel_rfl
theorem Tryz.cells9:Tryz.prog.cellsOf 9=1:=by kernel_rfl
theorem ZK{P:Program}{tp te ts ti:TypeId}{ms:Array (String×TypeId)}{f:Field}(hi:P.underlying ti=some (.interface ms))(hrow:∀u,P.typeName? 3 u=some "*errors.errorString"→u=tp)
 (hp:P.underlying tp=some (.pointer te)) (he:P.underlying te=some (.struct #[f])) (hft:f.type=ts) (hfo:f.offset=0) (hs:P.underlying ts=some .string) (hc:P.cellsOf te=1) (hcs:P.cellsOf ts=1) (W:World):∀(xs:List (String×Nat×List UInt8)) (rest:List (String×DataW Unit)) (ps:List MemPlace),
 (∀x,x∈xs→P.globalNamed x.1=some x.2.1∧(P.globals[x.2.1]?).map (·.type)=some ti)→
 DataW.LaidVars P W (xs.map (fun x=>(x.1,tP x.2.2))++rest) ps→ps.Nodup→
 (∀b off,MemPlace.cell b off∈ps→(∃c t,W.heap[b]?=some (.cells c t (0,0)))∧∀u v,W.cell? ⟨b,off,none⟩=some (.iface u v)→Value.okWide P W .any 0 u v)→
 ∃al:List Addr,al.length=xs.length∧(∀a,a∈al→MemPlace.cell a.block a.off∈ps)∧al.Nodup∧
  ∀(i:Nat) (x:String×Nat×List UInt8) (a:Addr),xs[i]?=some x→al[i]?=some a→W.cell? ⟨x.2.1,0,none⟩=some (.iface tp (.pointer (some a)))
 | [],_,_,_,_,_,_=>⟨[],rfl,(by intro a h;cases h),List.nodup_nil,(by intro i x a h;simp at h)⟩
 |x::xs,rest,ps,hx,hl,hnd,hrows=>by
  obtain⟨n,gn,t⟩:=x
  obtain⟨g0,t0,cs0,f0,p0,q0,hg0,ht0,hv0,hd0,hq,e0⟩:=hl
  obtain⟨hg,ht⟩:=hx (n,gn,t) (List.mem_cons_self ..)
  obtain rfl:=Option.some.inj (hg.symm.trans hg0)
  obtain rfl:=Option.some.inj (ht.symm.trans ht0)
  subst e0
  obtain⟨l0⟩:=cs0
  have ok0:∀u v,l0=[.iface u v]→Value.okWide P W .any 0 u v:=fun u v e=>by
   subst e
   exact(hrows gn 0 (by simp[MemPlace.row])).2 u v (by simpa using World.var?_cell hg0 hv0 0)
  obtain⟨a0,s0,rfl,hc0,hs0,hz0,rfl⟩:=errorString_of_trod hi hrow hp he hft hfo hs hc hcs hd0 ok0
  have hnd':=(List.nodup_append.1 hnd)
  obtain⟨al,hlen,hmem,hn,hcell⟩:=ZK hi hrow hp he hft hfo hs hc hcs W xs rest q0 (fun x h=>hx x (List.mem_cons_of_mem _ h)) hq hnd'.2.1 (fun b off h=>hrows b off (List.mem_append_right _ h))
  refine⟨a0::al,by simp[hlen],?_,?_,?_⟩
  ·intro a ha
   rcases List.mem_cons.1 ha with rfl|h
   ·simp[MemPlace.row]
   ·exact List.mem_append_right _ (hmem a h)
  ·refine List.nodup_cons.2 ⟨fun h=>?_,hn⟩
   exact hnd'.2.2 _ (by simp[MemPlace.row]:MemPlace.cell a0.block a0.off∈_) _ (hmem a0 h) rfl
  ·intro i x a h1 h2
   cases i with
   |zero=>
    simp only[List.getElem?_cons_zero,Option.some.injEq] at h1 h2
    subst h1 h2
    simpa using World.var?_cell hg0 hv0 0
   |succ i=>
    simp only[List.getElem?_cons_succ] at h1 h2
    exact hcell i x a h1 h2
def sentList:List (String×Nat×List UInt8):=[("statute/api.ErrText",1,[115,116,97,116,117,116,101,58,32,116,101,120,116]),("statute/api.ErrBound",0,[115,116,97,116,117,116,101,58,32,98,111,117,110,100]),("statute/api.ErrCoin",2,[115,116,97,116,117,116,101,58,32,97,109,111,117,110,116]),("statute/api.ErrDay",3,[115,116,97,116,117,116,101,58,32,100,97,121]),("statute/api.ErrPath",4,[115,116,97,116,117,116,101,58,32,112,97,116,104]),("statute/api.ErrWords",5,[115,116,97,116,117,116,101,58,32,119,111,114,100,115]),("statute/api.ErrName",6,[115,116,97,116,117,116,101,58,32,110,97,109,101]),("statute/api.ErrOrder",7,[115,116,97,116,117,116,101,58,32,111,114,100,101,114]),("statute/api.ErrKind",8,[115,116,97,116,117,116,101,58,32,107,105,110,100]),("statute/api.ErrProof",9,[115,116,97,116,117,116,101,58,32,101,120,112,108,97,110,97,116,105,111,110]),("statute/api.ErrStage",10,[115,116,97,116,117,116,101,58,32,115,116,97,103,101])]
theorem YK:∀x,x∈sentList→Tryz.prog.globalNamed x.1=some x.2.1∧(Tryz.prog.globals[x.2.1]?).map (·.type)=some 31:=by
 have h1:(sentList.map fun x=>Tryz.prog.globalNamed x.1)=sentList.map fun x=>some x.2.1:=by kernel_rfl
 have h2:(sentList.map fun x=>(Tryz.prog.globals[x.2.1]?).map (·.type))=sentList.map fun _=>some 31:=by kernel_rfl
 intro x hx
 exact⟨List.map_inj_left.1 h1 x hx,List.map_inj_left.1 h2 x hx⟩
theorem Tryz.et:Tryz.prog.globalNamed "errors.errorType"=some 11:=by kernel_rfl
theorem Tryz.rt:(Tryz.prog.cutTypes.find? (·.1== "internal/reflectlite.rtype")).map (·.2)=some 140:=by kernel_rfl
theorem Tryz.oneRow:((List.range 245).filter fun t=>Tryz.prog.rowNamed t [101,114,114,111,114])=[31]:=by kernel_rfl
theorem Tryz.size:Tryz.prog.types.size=245:=by kernel_rfl
theorem bN{W:World}(h:handlesMet Tryz.prog [("errors.errorType",Rows.laid_errors_errorType)] W):W.cell? ⟨11,0,none⟩=some (.iface 140 (.agg #[.pointer (some ⟨15,31,none⟩)])):=by
 obtain⟨name,u,ty,e1,e2,e3,e4,e5⟩:=h _ (List.mem_singleton.2 rfl)
 have en:name=[101,114,114,111,114]:=(Option.some.inj e1).symm
 subst en
 obtain rfl:=Option.some.inj (Tryz.rt.symm.trans e2)
 have hm:ty∈(List.range 245).filter fun t=>Tryz.prog.rowNamed t [101,114,114,111,114]:=List.mem_filter.2 ⟨List.mem_range.2 (by rw[←Tryz.size];exact e3),e4⟩
 rw[Tryz.oneRow] at hm
 obtain rfl:=List.mem_singleton.1 hm
 have hh:typeHandle Tryz.prog 31=.pointer (some ⟨15,31,none⟩):=by kernel_rfl
 rw[hh] at e5
 simpa using World.var?_cell Tryz.et e5 0
theorem mQ{W:World}{rest:List (String×DataW Unit)}(h:laidMet Tryz.prog (sentList.map (fun x=>(x.1,tP x.2.2))++rest) W)
 (h2:handlesMet Tryz.prog [("errors.errorType",Rows.laid_errors_errorType)] W):∃p,Laid W p:=by
 obtain⟨ps,hl,hnd,hrows⟩:=h
 obtain⟨al,hlen,hmem,hn,hcell⟩:=ZK Tryz.underlying31 Tryz.rowES Tryz.underlying214 Tryz.underlying234 rfl rfl Tryz.underlying9 Tryz.cellsES Tryz.cells9 W sentList rest ps YK hl hnd hrows
 have hlen':al.length=11:=hlen
 have hget:∀i,i<11→al[i]?=some (al.getD i ⟨0,0,none⟩):=fun i hi=>by
  rw[List.getD_eq_getElem?_getD,List.getElem?_eq_getElem (by omega)];rfl
 refine⟨fun i=>al.getD i ⟨0,0,none⟩,fun i hi=>?_,fun i j hi hj hij e=>?_,fun i hi=>?_,bN h2⟩
 ·have hx:∃n t,sentList[i]?=some (n,gi i,t):=by
   have h:i=0∨i=1∨i=2∨i=3∨i=4∨i=5∨i=6∨i=7∨i=8∨i=9∨i=10:=by omega
   rcases h with rfl|rfl|rfl|rfl|rfl|rfl|rfl|rfl|rfl|rfl|rfl<;>exact⟨_,_,rfl⟩
  obtain⟨n,t,hx⟩:=hx
  exact hcell i _ _ hx (hget i hi)
 ·have h1:=hget i hi
  have h2:=hget j hj
  have e':al.getD i ⟨0,0,none⟩=al.getD j ⟨0,0,none⟩:=e
  rw[e'] at h1
  rw[List.getElem?_eq_getElem (by omega)] at h1 h2
  have hEq:=Option.some.inj (h1.trans h2.symm)
  rcases Nat.lt_or_gt_of_ne hij with h|h
  ·exact List.pairwise_iff_getElem.1 hn i j (by omega) (by omega) h hEq
  ·exact List.pairwise_iff_getElem.1 hn j i (by omega) (by omega) h hEq.symm
 ·exact(hrows _ _ (hmem _ (List.mem_of_getElem? (hget i hi)))).1
theorem PH{P:Program}{laid rest:List (String×DataW Unit)}{h:String×DataW Unit}{hs:List (String×DataW Unit)}{W:World}
 (e1:(laid.filter fun x=>x.2.handleName?.isSome)=h::hs) (e2:(laid.filter fun x=>x.2.handleName?.isNone)=rest) (hL:laidMetH P laid W):laidMet P rest W∧handlesMet P (h::hs) W:=by
 unfold laidMetH at hL
 rw[e1] at hL
 rw[←e2]
 exact hL
end Go.Proofs.YtpbolcjcmkmalaaGreatDoor
namespace Go.Proofs.YtpbolcjcmkmalaaGreatDoor
open Go.RowKit Go.Extern.Stop Go.Stop Go.Extern
structure WayIs(w:World)(wa:Option Addr)(way:List ByteArray):Prop where
 at_:∀i s,way[i]?=some s→∃b o,wa=some ⟨b,o,none⟩∧b<w.heap.size∧w.cell? ⟨b,o+i,none⟩=some (.string s)
theorem WayIs.on{w w':World}{wa:Option Addr}{way:List ByteArray}(h:WayIs w wa way)(hb:Below w.heap.size w w'):WayIs w' wa way:=
 ⟨fun i s hs=>by
   obtain⟨b,o,e1,e2,e3⟩:=h.at_ i s hs
   exact⟨b,o,e1,Nat.lt_of_lt_of_le e2 hb.size,(hb.cell (p:=⟨b,o+i,none⟩) e2).trans e3⟩⟩
structure XIs(P:Nat→Prop)(w:World)(xa:Option Addr)(xs:List It)(X:Nat→Nat→Value):Prop where
 one:xs.length≤1
 at_:∀i,i<xs.length→∃b o,xa=some ⟨b,o,none⟩∧b<w.heap.size∧∀c,c<4→w.cell? ⟨b,o+i * 4+c,none⟩=some (X i c)
 li:∀i y,xs[i]?=some y→Lies w P (X i) y
theorem XIs.on{P:Nat→Prop}{w w':World}{xa:Option Addr}{xs:List It}{X:Nat→Nat→Value}(h:XIs P w xa xs X)(hb:Below w.heap.size w w'):XIs P w' xa xs X:=
 ⟨h.one,fun i hi=>by
   obtain⟨b,o,e1,e2,e3⟩:=h.at_ i hi
   exact⟨b,o,e1,Nat.lt_of_lt_of_le e2 hb.size,fun c hc=>(hb.cell (p:=⟨b,o+i * 4+c,none⟩) e2).trans (e3 c hc)⟩,fun i y hy=>(h.li i y hy).bel hb⟩
theorem Lies.inn{w:World}{P:Nat→Prop}{v:Nat→Value}{t:It}(h:Lies w P v t):Lies w (fun k=>P k∧k<w.heap.size) v t:=h.step fun _ hb hp=>⟨rfl,hp,hb⟩
def VE(xs:List It)(p:ByteArray)(r:List ByteArray)(k:It):List It:=if zE p k then (match r with| []=>xs|_=>[lB xs r k]) else [k]
theorem jP(xs:List It)(p:ByteArray)(r:List ByteArray)(t:It):lB xs (p::r) t=It.mk t.label t.head t.lines (t.kids.flatMap (VE xs p r)):=by
 cases r with
 |nil=>rw[lB];rfl
 |cons q r=>rw[lB];rfl
theorem zF{α β:Type}(f:α→List β)(l:List α)(i:Nat)(x:α)(h:l[i]?=some x):(l.take (i+1)).flatMap f=(l.take i).flatMap f++f x:=by
 obtain⟨hi,rfl⟩:=List.getElem?_eq_some_iff.1 h
 rw[List.take_succ_eq_append_getElem hi,List.flatMap_append]
 simp
theorem xO{xs:List It}(hx:xs.length≤1)(p:ByteArray)(r:List ByteArray)(k:It):(VE xs p r k).length≤1:=by
 unfold VE
 split
 ·split
  ·exact hx
  ·simp
 ·simp
theorem zH{xs:List It}(hx:xs.length≤1)(p:ByteArray)(r:List ByteArray):∀l:List It,(l.flatMap (VE xs p r)).length≤l.length
 | []=>by simp
 |k::l=>by
  have h1:=xO hx p r k
  have h2:=zH hx p r l
  rw[List.flatMap_cons,List.length_append,List.length_cons]
  omega
end Go.Proofs.YtpbolcjcmkmalaaGreatDoor
namespace Go.Proofs.YtpbolcjcmkmalaaGreatDoor
end Go.Proofs.YtpbolcjcmkmalaaGreatDoor
namespace Go.Proofs.YtpbolcjcmkmalaaGreatDoor
open Go.RowKit Go.Extern.Stop Go.Stop Go.Extern
theorem iF{P:Program}(w:World){ops:Array Oper}{rest:List Oper}{o:Oper}{a:Act}{Q:Exit→Act→World→Prop}(hgd:o.guard=none)(s x:Operand)(t:TypeId)
 (ho:o.op=.call {callee:=.builtin .append,args:=#[s,x],argTypes:=#[t,t]}) (e:TypeId) (i:TypeInfo) (ht:P.underlying t=some (.slice e)) (hi:P.info? e=some i)
 (sa:Option Addr) (n sc:Nat) (hn:n≤sc) (hs:a.eval s=.slice sa n sc) (xa:Option Addr) (c:Nat) (hx:a.eval x=.slice xa 0 c) (h:wpList P ops Q rest (a.put o.dst (.slice sa n sc)) w):wpList P ops Q (o::rest) a w:=by
 refine wpList_plain hgd fun K hK=>?_
 have hsrc:Src P i.size t (.slice xa 0 c) 0 [] w:=by
  cases xa with
  |none=>exact Src.ofNil w ht c
  |some ad=>exact Src.ofSlice w ht ad 0 c [] (by simp) (fun j u hj=>by cases hj) (fun u hu=>by cases hu)
 have hr:=run_append_nothing w t t o.type e i ht hi sa n sc hn (.slice xa 0 c) hsrc
 unfold Oper.wp execOp
 simp only[ho,resolve,invoke,builtin,Sem.run_bind,Sem.run_pure,Result.andThen_ok,List.map_toArray,List.map_cons,List.map_nil,hs,hx,hr]
 exact hK _ _ h
def RpAt(P:Nat→Prop)(w W1:World)(t:It)(f:It→List It)(s y:Value)(wr:World):Prop:=
 ∃(j:Nat) (K:Nat→Nat→Value) (sa:Option Addr) (sc:Nat),j≤t.kids.length∧y=.int .i64 j∧s=.slice sa ((t.kids.take j).flatMap f).length sc∧KRow P (w.heap.size+2) wr (.slice sa ((t.kids.take j).flatMap f).length sc) ((t.kids.take j).flatMap f) K∧Below (w.heap.size+2) W1 wr
def ZD(p l:List UInt8)(k:Nat):List Nat:=(List.range k).filter fun j=>p.isPrefixOf (l.drop j)
theorem BH(p l:List UInt8)(k:Nat):ZD p l (k+1)=ZD p l k++(if p.isPrefixOf (l.drop k) then [k] else []):=by
 unfold ZD
 rw[List.range_succ,List.filter_append]
 congr 1
 cases h:p.isPrefixOf (l.drop k)<;>simp[h]
theorem LI(p l:List UInt8):ZD p l l.length=jK p l:=rfl
theorem MI(p l:List UInt8)(k:Nat):(ZD p l k).length≤k:=by
 unfold ZD
 have:=List.length_filter_le (fun j=>p.isPrefixOf (l.drop j)) (List.range k)
 simpa using this
def tB(ls:List ByteArray)(i:Nat):List UInt8:=(ls[i]?.getD ⟨#[]⟩).toList
def mB(p:List UInt8)(ls:List ByteArray)(i:Nat):List (Nat×Nat):=(List.range i).flatMap fun j=>(jK p (tB ls j)).map fun k=>(j,k)
theorem bE(p:List UInt8)(ls:List ByteArray)(i:Nat):mB p ls (i+1)=mB p ls i++(jK p (tB ls i)).map fun k=>(i,k):=by
 unfold mB
 rw[List.range_succ,List.flatMap_append]
 simp
theorem CH(p:List UInt8)(ls:List ByteArray):mB p ls ls.length=lC p ls:=rfl
def XB(p:List UInt8)(ls:List ByteArray)(i k:Nat):List (Nat×Nat):=mB p ls i++(ZD p (tB ls i) k).map fun k=>(i,k)
theorem LG(p:List UInt8)(ls:List ByteArray)(i:Nat):XB p ls i 0=mB p ls i:=by unfold XB ZD;simp
theorem aE(p:List UInt8)(ls:List ByteArray)(i k:Nat):XB p ls i (k+1)=XB p ls i k++(if p.isPrefixOf ((tB ls i).drop k) then [(i,k)] else []):=by
 unfold XB
 rw[BH,List.map_append,←List.append_assoc]
 congr 1
 split<;>simp
theorem IL(p:List UInt8)(ls:List ByteArray)(i:Nat):XB p ls i (tB ls i).length=mB p ls (i+1):=by
 unfold XB
 rw[LI,bE]
def JC(H:List (Nat×Nat)):Nat×Nat:=H.getLast?.getD (0,0)
theorem FD(H:List (Nat×Nat))(a:Nat×Nat):JC (H++[a])=a:=by unfold JC;simp
theorem rO(p l:List UInt8):(jK p l).length≤l.length:=MI p l l.length
theorem TE(p:List UInt8)(ls:List ByteArray)(M:Nat)(h:∀i,(tB ls i).length≤M):∀i,(mB p ls i).length≤i * M
 |0=>by simp[mB]
 |i+1=>by
  rw[bE,List.length_append,List.length_map,Nat.succ_mul]
  have:=TE p ls M h i
  have:=rO p (tB ls i)
  have:=h i
  omega
theorem JL(p:List UInt8)(ls:List ByteArray)(M:Nat)(h:∀i,(tB ls i).length≤M)(i k:Nat)(hk:k≤M):(XB p ls i k).length≤i * M+M:=by
 unfold XB
 rw[List.length_append,List.length_map]
 have:=TE p ls M h i
 have:=MI p (tB ls i) k
 omega
theorem lK{p:List UInt8}{ls:List ByteArray}{i k:Nat}(h:lC p ls=[(i,k)]):i<ls.length∧k<(tB ls i).length∧p.isPrefixOf ((tB ls i).drop k)=true:=by
 have hm:(i,k)∈lC p ls:=by rw[h];simp
 unfold lC at hm
 obtain⟨j,hj,hm⟩:=List.mem_flatMap.1 hm
 obtain⟨k',hk',e⟩:=List.mem_map.1 hm
 injection e with e1 e2
 subst e1 e2
 have hk':k'∈jK p (tB ls j):=hk'
 unfold jK at hk'
 obtain⟨h1,h2⟩:=List.mem_filter.1 hk'
 exact⟨List.mem_range.1 hj,List.mem_range.1 h1,h2⟩
end Go.Proofs.YtpbolcjcmkmalaaGreatDoor

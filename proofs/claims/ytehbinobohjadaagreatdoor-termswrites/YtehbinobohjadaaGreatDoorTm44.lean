import Derived.Test.YtehbinobohjadaaGreatDoorTm00
import Derived.Test.YtehbinobohjadaaGreatDoorRows
import Derived.Test.YtehbinobohjadaaGreatDoorTm08
import Derived.LaidLaws
import Derived.LaidHandle
import Derived.Stop.LaidErr
import Derived.Deep.QuietTactic
import Derived.BigQuiet
import Derived.Test.YtehbinobohjadaaGreatDoorTm39
import Derived.Test.YtehbinobohjadaaGreatDoorTm21
import Derived.Test.YtehbinobohjadaaGreatDoorTm35
import Derived.Test.YtehbinobohjadaaGreatDoorTm43
import Derived.Test.YtehbinobohjadaaGreatDoorTm37
import Derived.Test.YtehbinobohjadaaGreatDoorTm42
import Derived.Test.YtehbinobohjadaaGreatDoorTm41
import Derived.Test.YtehbinobohjadaaGreatDoorTm11
import Derived.Test.YtehbinobohjadaaGreatDoorTm31
set_option maxHeartbeats 20000000
set_option maxRecDepth 20000
namespace Go.Proofs.YtehbinobohjadaaGreatDoor
open Go.RowKit Go.ChangeShapes
def yR(t:List UInt8):DataW Unit:=.iface "*errors.errorString" (.ptr (.agg [.lit (.string t)]))
theorem Tryz.star: "*"++ "errors.errorString"= "*errors.errorString":=by decide
theorem Tryz.rowES(u:TypeId)(h:Tryz.prog.typeName? 3 u=some "*errors.errorString"):u=189:=
 typeName_ptr_named (nm:= "errors.errorString") (by rw[Tryz.star];kernel_rfl) (by kernel_rfl) (by decide) u (by rw[Tryz.star];exact h)
theorem Tryz.cellsES:Tryz.prog.cellsOf 207=1:=by kernel_rfl
theorem Tryz.cells9:Tryz.prog.cellsOf 9=1:=by kernel_rfl
theorem VL{P:Program}{tp te ts ti:TypeId}{ms:Array (String×TypeId)}{f:Field}(hi:P.underlying ti=some (.interface ms))(hrow:∀u,P.typeName? 3 u=some "*errors.errorString"→u=tp)
 (hp:P.underlying tp=some (.pointer te)) (he:P.underlying te=some (.struct #[f])) (hft:f.type=ts) (hfo:f.offset=0) (hs:P.underlying ts=some .string) (hc:P.cellsOf te=1) (hcs:P.cellsOf ts=1) (W:World):∀(xs:List (String×Nat×List UInt8)) (rest:List (String×DataW Unit)) (ps:List MemPlace),
 (∀x,x∈xs→P.globalNamed x.1=some x.2.1∧(P.globals[x.2.1]?).map (·.type)=some ti)→
 DataW.LaidVars P W (xs.map (fun x=>(x.1,yR x.2.2))++rest) ps→ps.Nodup→
 (∀b off,MemPlace.cell b off∈ps→(∃c t,W.heap[b]?=some (.cells c t (0,0)))∧∀u v,W.cell? ⟨b,off,none⟩=some (.iface u v)→Value.okWide P W .any 0 u v)→
 ∃al:List Addr,al.length=xs.length∧(∀a,a∈al→MemPlace.cell a.block a.off∈ps)∧al.Nodup∧
  ∀(i:Nat) (x:String×Nat×List UInt8) (a:Addr),xs[i]?=some x→al[i]?=some a→W.cell? ⟨x.2.1,0,none⟩=some (.iface tp (.pointer (some a)))
 | [],_,_,_,_,_,_=>⟨[],rfl,(by intro a h;cases h),List.nodup_nil,(by intro i x a h;simp at h)⟩
 |x::xs,rest,ps,hx,hl,hnd,hrows=>by
  obtain⟨n,gn,t⟩:=x
  obtain⟨g0,t0,cs0,f0,p0,q0,hg0,ht0,hv0,UK,hq,e0⟩:=hl
  obtain⟨hg,ht⟩:=hx (n,gn,t) (List.mem_cons_self ..)
  obtain rfl:=Option.some.inj (hg.symm.trans hg0)
  obtain rfl:=Option.some.inj (ht.symm.trans ht0)
  subst e0
  obtain⟨l0⟩:=cs0
  have ok0:∀u v,l0=[.iface u v]→Value.okWide P W .any 0 u v:=fun u v e=>by
   subst e
   exact(hrows gn 0 (by simp[MemPlace.row])).2 u v (by simpa using World.var?_cell hg0 hv0 0)
  obtain⟨a0,s0,rfl,hc0,hs0,hz0,rfl⟩:=errorString_of_trod hi hrow hp he hft hfo hs hc hcs UK ok0
  have hnd':=(List.nodup_append.1 hnd)
  obtain⟨al,hlen,hmem,hn,hcell⟩:=VL hi hrow hp he hft hfo hs hc hcs W xs rest q0 (fun x h=>hx x (List.mem_cons_of_mem _ h)) hq hnd'.2.1 (fun b off h=>hrows b off (List.mem_append_right _ h))
  refine⟨a0::al,by simp[hlen],?_,?_,?_⟩
  ·intro a ha
   rcases List.mem_cons.1 ha with rfl|h
   ·simp[MemPlace.row]
   ·exact List.mem_append_right _ (hmem a h)
  ·refine List.nodup_cons.2 ⟨fun h=>?_,hn⟩
   exact hnd'.2.2 _ (by simp[MemPlace.row]:MemPlace.cell a0.block a0.off∈_) _ (hmem a0 h) rfl
  ·intro i x a h1 h2
   cases i with
   |zero=>
    simp only[List.getElem?_cons_zero,Option.some.injEq] at h1 h2
    subst h1 h2
    simpa using World.var?_cell hg0 hv0 0
   |succ i=>
    simp only[List.getElem?_cons_succ] at h1 h2
    exact hcell i x a h1 h2
def sentList:List (String×Nat×List UInt8):=[("statute/api.ErrText",1,[115,116,97,116,117,116,101,58,32,116,101,120,116]),("statute/api.ErrBound",0,[115,116,97,116,117,116,101,58,32,98,111,117,110,100]),("statute/api.ErrCoin",2,[115,116,97,116,117,116,101,58,32,97,109,111,117,110,116]),("statute/api.ErrDay",3,[115,116,97,116,117,116,101,58,32,100,97,121]),("statute/api.ErrPath",4,[115,116,97,116,117,116,101,58,32,112,97,116,104]),("statute/api.ErrWords",5,[115,116,97,116,117,116,101,58,32,119,111,114,100,115]),("statute/api.ErrName",6,[115,116,97,116,117,116,101,58,32,110,97,109,101]),("statute/api.ErrOrder",7,[115,116,97,116,117,116,101,58,32,111,114,100,101,114]),("statute/api.ErrKind",8,[115,116,97,116,117,116,101,58,32,107,105,110,100]),("statute/api.ErrProof",9,[115,116,97,116,117,116,101,58,32,101,120,112,108,97,110,97,116,105,111,110]),("statute/api.ErrStage",10,[115,116,97,116,117,116,101,58,32,115,116,97,103,101])]
theorem RL:∀x,x∈sentList→Tryz.prog.globalNamed x.1=some x.2.1∧(Tryz.prog.globals[x.2.1]?).map (·.type)=some 32:=by
 have h1:(sentList.map fun x=>Tryz.prog.globalNamed x.1)=sentList.map fun x=>some x.2.1:=by kernel_rfl
 have h2:(sentList.map fun x=>(Tryz.prog.globals[x.2.1]?).map (·.type))=sentList.map fun _=>some 32:=by kernel_rfl
 intro x hx
 exact⟨List.map_inj_left.1 h1 x hx,List.map_inj_left.1 h2 x hx⟩
theorem Tryz.et:Tryz.prog.globalNamed "errors.errorType"=some 11:=by kernel_rfl
theorem Tryz.rt:(Tryz.prog.cutTypes.find? (·.1== "internal/reflectlite.rtype")).map (·.2)=some 151:=by kernel_rfl
theorem Tryz.oneRow:((List.range 219).filter fun t=>Tryz.prog.rowNamed t [101,114,114,111,114])=[32]:=by kernel_rfl
theorem Tryz.size:Tryz.prog.types.size=219:=by kernel_rfl
theorem KO{W:World}(h:handlesMet Tryz.prog [("errors.errorType",Rows.laid_errors_errorType)] W):W.cell? ⟨11,0,none⟩=some (.iface 151 (.agg #[.pointer (some ⟨16,32,none⟩)])):=by
 obtain⟨name,u,ty,e1,e2,e3,e4,e5⟩:=h _ (List.mem_singleton.2 rfl)
 have en:name=[101,114,114,111,114]:=(Option.some.inj e1).symm
 subst en
 obtain rfl:=Option.some.inj (Tryz.rt.symm.trans e2)
 have hm:ty∈(List.range 219).filter fun t=>Tryz.prog.rowNamed t [101,114,114,111,114]:=List.mem_filter.2 ⟨List.mem_range.2 (by rw[←Tryz.size];exact e3),e4⟩
 rw[Tryz.oneRow] at hm
 obtain rfl:=List.mem_singleton.1 hm
 have hh:typeHandle Tryz.prog 32=.pointer (some ⟨16,32,none⟩):=by kernel_rfl
 rw[hh] at e5
 simpa using World.var?_cell Tryz.et e5 0
theorem OS{W:World}{rest:List (String×DataW Unit)}(h:laidMet Tryz.prog (sentList.map (fun x=>(x.1,yR x.2.2))++rest) W)
 (h2:handlesMet Tryz.prog [("errors.errorType",Rows.laid_errors_errorType)] W):∃p,Laid W p:=by
 obtain⟨ps,hl,hnd,hrows⟩:=h
 obtain⟨al,hlen,hmem,hn,hcell⟩:=VL Tryz.underlying32 Tryz.rowES Tryz.underlying189 Tryz.underlying207 rfl rfl Tryz.underlying9 Tryz.cellsES Tryz.cells9 W sentList rest ps RL hl hnd hrows
 have hlen':al.length=11:=hlen
 have hget:∀i,i<11→al[i]?=some (al.getD i ⟨0,0,none⟩):=fun i hi=>by
  rw[List.getD_eq_getElem?_getD,List.getElem?_eq_getElem (by omega)];rfl
 refine⟨fun i=>al.getD i ⟨0,0,none⟩,fun i hi=>?_,fun i j hi hj hij e=>?_,fun i hi=>?_,KO h2⟩
 ·have hx:∃n t,sentList[i]?=some (n,gi i,t):=by
   have h:i=0∨i=1∨i=2∨i=3∨i=4∨i=5∨i=6∨i=7∨i=8∨i=9∨i=10:=by omega
   rcases h with rfl|rfl|rfl|rfl|rfl|rfl|rfl|rfl|rfl|rfl|rfl<;>exact⟨_,_,rfl⟩
  obtain⟨n,t,hx⟩:=hx
  exact hcell i _ _ hx (hget i hi)
 ·have h1:=hget i hi
  have h2:=hget j hj
  have e':al.getD i ⟨0,0,none⟩=al.getD j ⟨0,0,none⟩:=e
  rw[e'] at h1
  rw[List.getElem?_eq_getElem (by omega)] at h1 h2
  have hEq:=Option.some.inj (h1.trans h2.symm)
  rcases Nat.lt_or_gt_of_ne hij with h|h
  ·exact List.pairwise_iff_getElem.1 hn i j (by omega) (by omega) h hEq
  ·exact List.pairwise_iff_getElem.1 hn j i (by omega) (by omega) h hEq.symm
 ·exact(hrows _ _ (hmem _ (List.mem_of_getElem? (hget i hi)))).1
theorem WI{P:Program}{laid rest:List (String×DataW Unit)}{h:String×DataW Unit}{hs:List (String×DataW Unit)}{W:World}
 (e1:(laid.filter fun x=>x.2.handleName?.isSome)=h::hs) (e2:(laid.filter fun x=>x.2.handleName?.isNone)=rest) (hL:laidMetH P laid W):laidMet P rest W∧handlesMet P (h::hs) W:=by
 unfold laidMetH at hL
 rw[e1] at hL
 rw[←e2]
 exact hL
end Go.Proofs.YtehbinobohjadaaGreatDoor
namespace Go.Proofs.YtehbinobohjadaaGreatDoor
open Go.RowKit Go.Extern.Stop Go.Stop Go.Extern
end Go.Proofs.YtehbinobohjadaaGreatDoor
namespace Go.Proofs.YtehbinobohjadaaGreatDoor
open Go.RowKit Go.Sort Go.Extern.Stop Go.Stop Go.Extern
set_option linter.unusedSectionVars false
variable [Inhabited TP]
mutual
theorem BM:∀(t u:Tn),SK t u=true→t=u
 | .mk a b c d,.mk a' b' c' d',h=>by
   rw[SK] at h
   simp only[Bool.and_eq_true,decide_eq_true_eq] at h
   obtain⟨h1,h2,h3,h4⟩:=h
   rw[(wC _ _).1 h1,(wC _ _).1 h2,h3,IN d d' h4]
theorem IN:∀(l m:List Tn),MF l m=true→l=m
 | [],[],_=>rfl
 |x::l,y::m,h=>by
  rw[MF] at h
  simp only[Bool.and_eq_true] at h
  rw[BM x y h.1,IN l m h.2]
 | [],_::_,h=>by rw[MF] at h;cases h
 |_::_,[],h=>by rw[MF] at h;cases h
end
theorem GN:∀(l m:List ByteArray),lG l m=true→l=m
 | [],[],_=>rfl
 |x::l,y::m,h=>by
  rw[lG,Bool.and_eq_true] at h
  rw[(wC x y).1 h.1,GN l m h.2]
 | [],_::_,h=>by rw[lG] at h;cases h
 |_::_,[],h=>by rw[lG] at h;cases h
theorem NU{x y:SentT}(h:xP x y=true):x=y:=by
 rw[AM] at h
 simp only[Bool.and_eq_true,decide_eq_true_eq] at h
 obtain⟨h1,h2,h3,h4,h5,h6,h7,h8,h9,⟨h10,h11,h12⟩,h13⟩:=h
 obtain⟨a,b,c,d,e,f,g,i,j,k,l,m,n⟩:=x
 obtain⟨a',b',c',d',e',f',g',i',j',k',l',m',n'⟩:=y
 simp only at h1 h2 h3 h4 h5 h6 h7 h8 h9 h10 h11 h12 h13
 rw[(wC a a').1 h1,(wC b b').1 h2,h3,beq_iff_eq.1 h4,(wC e e').1 h5,BM _ _ h6,BM _ _ h7,h8,GN _ _ h9,h10,h11,h12,(wC n n').1 h13]
def fW(x:SentT):Nat:=match WD x with
 |none=>0
 |some s=>20 * (dB (ZB s.ts)).length+20
theorem VV{x:SentT}:∀s,WD x=some s→IC (ZB s.ts)=true→(ZB s.ts).size≤300→mD (dB (ZB s.ts)) (fW x) 0 0≠.out:=fun s hs _ _=>by
 unfold fW
 rw[hs]
 exact sV _ _ _
theorem lI:∀(f:Nat) (l:List UInt8) (p:Nat),(DB f l p).length≤l.length+1
 |0,l,p=>by rw[DB];show 1≤_;omega
 |f+1,[],p=>by rw[DB];exact nR _
 |f+1,c::r,p=>by
  rw[DB]
  split
  ·have:=lI f r (p+1)
   rw[List.length_cons]
   omega
  ·have h1:=lI f ((c::r).drop (wA (c::r)).2) (p+(wA (c::r)).2)
   have h2:=DF (c::r)
   rw[List.length_drop] at h1
   rw[List.length_cons]
   rw[List.length_cons] at h1 ⊢
   omega
theorem fR{x:SentT}{u:ByteArray}(h:GL x (fW x)=some u):∃(y:SentW) (L:List Tok) (k:Nat),x=AV y∧(SmallN y.cond∧SmallN y.sum∧y.over.length≤100000000)∧LineR y u L k:=by
 unfold GL at h
 cases hs:WD x with
 |none=>rw[hs] at h;cases h
 |some s=>
  rw[hs] at h
  have h:(match EF (ZB s.ts) (fW x) with
   | .ok y=>if xP x (AV y)=true then some (ZB s.ts) else none
   |_=>none)=some u:=h
  have hF:fW x+8≤1000 * ((ZB s.ts).size+1):=by
   unfold fW
   rw[hs]
   have:=lI ((ZB s.ts).size+1) (ZB s.ts).data.toList 0
   rw[xA] at this
   have h2:(dB (ZB s.ts)).length≤(ZB s.ts).size+1:=this
   show 20 * (dB (ZB s.ts)).length+20+8≤_
   omega
  cases hr:EF (ZB s.ts) (fW x) with
  |none=>rw[hr] at h;cases h
  |bad=>rw[hr] at h;cases h
  |ok y=>
   rw[hr] at h
   have h:(if xP x (AV y)=true then some (ZB s.ts) else none)=some u:=h
   split at h
   ·rename_i he
    injection h with h
    obtain⟨L,k,hL⟩:=eP hr hF
    rw[h] at hL
    exact⟨y,L,k,NU he,iJ hr,hL⟩
   ·cases h
theorem xS{w:World}{p:Nat→Addr}(L:Laid w p):Calls Tryz.prog 12 #[.iface 189 (.pointer (some (p 0))),.int .i64 1] w fun e w'=>e=.returned (.bool true)∧Below w.heap.size w w':=by
 have HC:=aA (zO 0 (by omega) p w L)
 clear L
 go_enter Tryz.func12,Tryz.ntmps12
 go_wp2_with (go_at_call 27;refine HC.out.mono ?_;rintro e w' ⟨rfl,hb⟩;(have HB:=aA hb);clear hb)
 go_ret
 exact⟨rfl,HB.out⟩
end Go.Proofs.YtehbinobohjadaaGreatDoor
namespace Go.Proofs.YtehbinobohjadaaGreatDoor
open Go.RowKit Go.Extern.Stop Go.Stop Go.Extern
set_option linter.unusedSectionVars false
variable [Inhabited TP]
theorem YM{L:List Tok}{bp tb cp f:Nat}{w:World}{k n k' n':Nat}{x:SentW}{K:ByteArray}(hK:K=wDefine∨K=wRule∨K=wAmount∨K=wDuty)(h:POk L bp tb cp w k n)(g:GoodL L)(hL:∀(i:Nat) (t:Tok),L[i]?=some t→t.kind=TK.n→gG t.text)(he:FF L f K k n=.ok x k' n'):
 Calls Tryz.prog 31 #[.pointer (some ⟨bp,0,none⟩),.string K] w fun e w'=>XK L bp tb cp w x k' n' e w':=by
 have hA:=YK (bp:=bp) (tb:=tb) (cp:=cp) hL f f (nR _)
 rcases hK with hK|hK|hK|hK
 ·exact WP hK h hA.ei he
 ·exact iT hK h g hA.ei he
 ·exact JP hK h hA.ei hA.su he
 ·exact MU hK h g hL he
theorem nL{L:List Tok}(g:GoodL L):∀t,t∈L→t.kind≠.b:=fun t ht=>by
 obtain⟨i,hi,e⟩:=List.mem_iff_getElem.1 ht
 have:=g.nb i
 unfold cA at this
 rw[List.getElem?_eq_getElem hi,e] at this
 exact this
theorem UP{s K:ByteArray}{r:List UInt8}(h:s.data.toList=K.data.toList++32::r)(hK:∀c,c∈K.data.toList→c≠32):K.size<s.size∧(∀i (hi:i<s.size),i<K.size→¬s[i].toNat=32)∧(∀(hi:K.size<s.size),s[K.size].toNat=32)∧s.extract 0 K.size=K:=by
 have hl:K.size<s.size:=by rw[←xA,←xA,h,List.length_append,List.length_cons];omega
 have get:∀i (hi:i<s.size),s.data.toList[i]?=some s[i]:=fun i hi=>by
  have h1:=NA s i hi
  have h2:(s.data.toList.drop i)[0]?=some s[i]:=by rw[h1];rfl
  rw[List.getElem?_drop,Nat.add_zero] at h2
  exact h2
 refine⟨hl,fun i hi hK2 e=>?_,fun hi=>?_,?_⟩
 ·have h1:=get i hi
  rw[h,List.getElem?_append_left (by rw[xA];exact hK2)] at h1
  exact hK s[i] (List.mem_of_getElem? h1) (UInt8.toNat_inj.1 e)
 ·have h1:=get K.size hi
  rw[h,List.getElem?_append_right (by rw[xA];exact nR _),xA,Nat.sub_self] at h1
  have h1:some (32:UInt8)=some s[K.size]:=h1
  injection h1 with h1
  rw[←h1];rfl
 ·apply ByteArray.ext
  apply Array.toList_inj.1
  rw[nG,h,List.take_append_of_le_length (by rw[xA];exact nR _),←xA K,List.take_length]
theorem tL(wr:World)(o:Obj)(x:ByteArray):Calls Tryz.prog 28 #[.string x,.slice (some ⟨wr.heap.size+1,0,none⟩) 4 4] ((wr.alloc o).alloc (.cells #[.string ⟨#[100,101,102,105,110,101]⟩,.string ⟨#[114,117,108,101]⟩,.string ⟨#[97,109,111,117,110,116]⟩,.string ⟨#[100,117,116,121]⟩] 9)) fun e w'=>e=.returned (.int .i64 (aD kindsW x))∧w'=(wr.alloc o).alloc (.cells #[.string ⟨#[100,101,102,105,110,101]⟩,.string ⟨#[114,117,108,101]⟩,.string ⟨#[97,109,111,117,110,116]⟩,.string ⟨#[100,117,116,121]⟩] 9):=by
 refine zF kindsW (wr.heap.size+1) 0 4 _ (fun i s hs=>?_) (by decide) x
 have h:=sE (wr.alloc o) [.string ⟨#[100,101,102,105,110,101]⟩,.string ⟨#[114,117,108,101]⟩,.string ⟨#[97,109,111,117,110,116]⟩,.string ⟨#[100,117,116,121]⟩] 9 i (.string s) (by show (kindsW.map Value.string)[i]?=_;rw[List.getElem?_map,hs];rfl)
 have hz:(wr.alloc o).heap.size=wr.heap.size+1:=by simp
 rw[hz] at h
 exact h
theorem nQ{K:ByteArray}(hK:K=wDefine∨K=wRule∨K=wAmount∨K=wDuty):¬aD kindsW K<0:=by
 rw[plcI_neg]
 intro h
 have h2:=(OM (l:=kindsW) (s:=K)).1 (by rw[h];rfl)
 exact h2 (by rcases hK with rfl|rfl|rfl|rfl<;>simp[kindsW])
theorem eQ(a b c d:Value)(w:World):(Instr.field 82 (.agg #[a,b,c,d]) 0).run Tryz.prog w=.ok a w:=by kernel_rfl
def NV(x:SentW)(w:World)(e:Ending)(w':World):Prop:=∃g cs,e=.returned (.tuple #[.pointer (some ⟨g,0,none⟩),.bool true,.agg #[.int .i64 0,.int .i64 (-1)]])∧w.heap.size≤g∧w'.heap[g]?=some (.cells cs 47 (0,0))∧SentC w.heap.size x cs w'∧Below w.heap.size w w'
set_option maxRecDepth 10000 in
theorem gJ{x:SentW}{s:ByteArray}{L:List Tok}{kk:Nat}(h:LineR x s L kk)(w:World):Calls Tryz.prog 13 #[.string s] w (NV x w):=by
 obtain⟨K,hKe⟩:∃K,K=x.kind:=⟨_,rfl⟩
 have hKd:K=wDefine∨K=wRule∨K=wAmount∨K=wDuty:=by rw[hKe];exact h.kind
 obtain⟨r,hr⟩:=h.cut
 rw[←hKe] at hr
 obtain⟨b1,b2,b3,b4⟩:=UP hr (sL hKd).1
 have hsz:=h.sz
 have htk:=h.tk
 rw[←hKe] at htk
 have hge:=h.good
 have hgm:=nL hge
 have hwh:=h.rd
 rw[←hKe] at hwh
 unfold uJ at hwh
 rw[if_neg (hge.nb 0)] at hwh
 obtain⟨y,k',n',eS,eF⟩:=PR.bind_okE hwh
 have hend:(cA L k').kind=.e:=by
  by_cases he:(cA L k').kind=.e
  ·exact he
  ·rw[if_neg he] at eF;cases eF
 rw[if_pos hend] at eF
 injection eF with eF _ _
 subst eF
 have hlen:=SR (s.size+1) (s.data.toList.drop K.size) K.size
 have hlt:0<L.length∧L.length≤4000:=by
  rw[←htk]
  refine⟨hlen.2,Nat.le_trans hlen.1 ?_⟩
  rw[List.length_drop,xA];omega
 have hnum:∀(i:Nat) (t:Tok),L[i]?=some t→t.kind=TK.n→gG t.text:=by
  rw[←htk]
  exact TR _ _ _
 have HTo:=aA (fun W=>jM s K.size (by omega) (by omega) (by rw[htk];exact hgm) W)
 rw[htk] at HTo
 have hpl:=nQ hKd
 have HAm:=aA (fun o=>tL w o K)
 have HB2:=aA b2
 have b3:=b3 b1
 have HSe:=aA (fun (W:World) (bp tb cp:Nat) (hp:POk L bp tb cp W 0 0)=>YM (f:=1000 * (s.size+1)) hKd hp hge hnum eS)
 have HG:=aA (aI hge (aI hend hlt))
 have hkE:((kB (cA L k').kind).toList==[101])=true:=by rw[hend,Lib.toList_data];decide
 clear hnum hlen hwh hgm hge htk hr eS hend h hKd b2 hKe
 generalize aD kindsW K=pl at *
 have hKs:(K.size:Int)≤s.size:=by omega
 have hKn:¬(K.size:Int)=s.size:=by omega
 have hs300:¬(300:Int)<s.size:=by omega
 have hKl:(K.size:Int)<s.size:=by omega
 have hKlb:decide ((K.size:Int)<s.size)=true:=by simpa using hKl
 have hKnb:((K.size:Int)==(s.size:Int))=false:=by rw[beq_eq_false_iff_ne];exact hKn
 have hplb:decide (pl<0)=false:=by simpa using hpl
 have hs3b:decide ((300:Int)<s.size)=false:=by simpa using hs300
 go_enter Tryz.func13,Tryz.ntmps13
 go_wp2_with fail
 go_loopw [5] (fun y wr=>∃i:Nat,y=.int .i64 i∧i≤K.size∧wr=w.alloc (.cells #[.int .i64 0,.int .i64 0] 51)) (fun y _=>(s.size - RowKit.intOf y).toNat)
 case atStart=>exact⟨0,rfl,by omega,rfl⟩
 case round=>
  obtain⟨i,rfl,hi,hwr⟩:=hrel
  subst hwr
  by_cases hlt2:i<K.size
  ·have hiz:(i:Int)<s.size:=by omega
   have hi2:i<s.size:=by omega
   have hp32:=HB2.out i hi2 hlt2
   go_wp2
   go_roundw
   case rel=>exact⟨i+1,by go_num,by omega,trivial⟩
   case measure=>simp[RowKit.intOf];omega
  ·obtain rfl:i=K.size:=by omega
   go_upto_region 8 with (go_at_call 28;refine(HAm.out _).mono ?_;rintro e w' ⟨rfl,rfl⟩)
   obtain⟨V0,hV0⟩:∃V0,V0=(w.alloc (.cells #[.int .i64 0,.int .i64 0] 51)).alloc (.cells #[.string ⟨#[100,101,102,105,110,101]⟩,.string ⟨#[114,117,108,101]⟩,.string ⟨#[97,109,111,117,110,116]⟩,.string ⟨#[100,117,116,121]⟩] 9):=⟨_,rfl⟩
   rw[←hV0]
   have hb0:Below w.heap.size w V0:=by rw[hV0];exact tI _ _ _
   have hf0:V0.heap[w.heap.size]?=some (.cells #[.int .i64 0,.int .i64 0] 51 (0,0)):=by
    rw[hV0,Go.Deep.blk_alloc_lt _ _ _ (by simp)]
    exact heap_alloc_new _ _
   have hs0:w.heap.size<V0.heap.size:=(Array.getElem?_eq_some_iff.1 hf0).1
   have H0:=aA (aI hb0 hf0)
   clear hV0 hb0 hf0 HAm
   go_upto_region 9 with (go_at_call 29;refine(HTo.out _).mono ?_;rintro e V1 ⟨ta,cap,rfl,hT,hB⟩;obtain⟨_,tb,hta,htb,hcl⟩:=hT.get HG.out.2.2.1;subst hta;have hs1:=hB.size;have H1:=aA (aI hB hcl);clear hT hB hcl)
   obtain⟨V2,hV2⟩:∃V2,V2=V1.alloc (.cells #[.slice (some ⟨tb,0,none⟩) L.length cap,.int .i64 0,.int .i64 0,.int .i64 0,.int .i64 0] 80):=⟨_,rfl⟩
   rw[←hV2]
   have hb2:Below V1.heap.size V1 V2:=by rw[hV2];exact bA _ _
   have htin:tb<V1.heap.size:=fB (H1.out.2 0 _ (vC HG.out.2.2.1) 0 (by omega))
   have hp2:POk L V1.heap.size tb cap V2 0 0:=by
    refine⟨⟨by rw[hV2];exact heap_alloc_new _ _,fun i t e c hc=>(hb2.cell (p:=⟨tb,i * 4+c,none⟩) htin).trans (H1.out.2 i t e c hc),by omega,HG.out.2.2.1,HG.out.2.2.2,fun i t e hk=>?_⟩,HG.out.1.nb 0,by omega⟩
    exact absurd hk (nL HG.out.1 t (List.mem_of_getElem? e))
   have hs2:V1.heap.size<V2.heap.size:=hp2.s.in
   have H2:=aA (aI hp2 ((H1.out.1.trans (hb2.mono hs1))))
   have HSee:=aA (RD hp2.s hp2.nb)
   clear hV2 hb2 hp2 H1
   generalize hbp:V1.heap.size=bp at *
   go_upto_region 10 with (go_at_call 30;refine HSee.out.mono ?_;rintro e V3 ⟨rfl,hB⟩;have hs3:=hB.size;have H3:=aA (aI (H2.out.1.below hB) hB);clear hB)
   clear HSee
   go_upto_region 11 with (go_at_call 31;refine(HSe.out _ _ _ _ H3.out.1).mono ?_;rintro e V4 ⟨sg,cs,rfl,hR,hC⟩;have hs4:=hR.b.size;have H4:=aA (aI hR hC);clear hR hC)
   have HSee2:=aA (RD H4.out.1.p.s H4.out.1.p.nb)
   unfold sI at HSee2
   generalize kB (cA L k').kind=KE at *
   generalize (cA L k').text=KT at *
   generalize (cA L k').pos=KP at *
   generalize (cA L k').code=KC at *
   have hfd:∀V,(Instr.field 82 (.agg #[.string KE,.string KT,.int .i64 KP,.int .i64 KC]) 0).run Tryz.prog V=.ok (.string KE) V:=fun V=>eQ _ _ _ _ V
   go_upto_region 13 with (go_at_call 30;refine HSee2.out.mono ?_;rintro e V5 ⟨rfl,hB⟩;have hs5:=hB.size;have H5:=aA hB;clear hB)
   have hp5:=H4.out.1.p.below H5.out
   obtain⟨q0,q1,q2,q3,q4,qf⟩:=hp5.s.cells
   have hf5:V5.heap[w.heap.size]?=some (.cells #[.int .i64 0,.int .i64 0] 51 (0,0)):=by
    have hbp1:w.heap.size<bp:=by omega
    exact(H5.out.block _ (by omega)).trans ((H4.out.1.b.block _ (by omega) (by omega)).trans ((H3.out.2.block _ (by omega)).trans ((H2.out.2.block _ hs0).trans H0.out.2)))
   have f0:V5.cell? ⟨w.heap.size,0,none⟩=some (.int .i64 0):=by simp[World.cell?,hf5]
   have f1:V5.cell? ⟨w.heap.size,1,none⟩=some (.int .i64 0):=by simp[World.cell?,hf5]
   have ff:∀i,V5.frozen? ⟨w.heap.size,i,none⟩=false:=by simp[World.frozen?,hf5]
   clear hp5 hf5 HSee2
   go_wp2
   refine bodyPost_ret (v:=.tuple #[.pointer (some ⟨sg,0,none⟩),.bool true,.agg #[.int .i64 0,.int .i64 (-1)]]) (by simp[results,Tryz.results13,go_sem,f0,f1]) rfl ?_
   have hbp1:w.heap.size<bp:=by omega
   have hall:∀q,q<w.heap.size→((V5.setCell ⟨w.heap.size,0,none⟩ (.int .i64 0)).setCell ⟨w.heap.size,1,none⟩ (.int .i64 (-1))).heap[q]?=w.heap[q]?:=fun q hq=>by
    rw[Below.heap_setCell _ _ _ _ (by show q≠w.heap.size;omega),Below.heap_setCell _ _ _ _ (by show q≠w.heap.size;omega)]
    exact(H5.out.block _ (by omega)).trans ((H4.out.1.b.block _ (by omega) (by omega)).trans ((H3.out.2.block _ (by omega)).trans ((H2.out.2.block _ (by omega)).trans (H0.out.1.block _ hq))))
   have hlo:=H4.out.1.lo
   have hnew:∀q,V3.heap.size≤q→q<V4.heap.size→((V5.setCell ⟨w.heap.size,0,none⟩ (.int .i64 0)).setCell ⟨w.heap.size,1,none⟩ (.int .i64 (-1))).heap[q]?=V4.heap[q]?:=fun q h1 h2=>by
    rw[Below.heap_setCell _ _ _ _ (by show q≠w.heap.size;omega),Below.heap_setCell _ _ _ _ (by show q≠w.heap.size;omega)]
    exact H5.out.block q h2
   refine⟨sg,cs,rfl,by omega,(hnew sg hlo H4.out.1.in).trans H4.out.1.s,H4.out.2.to (by omega) hnew,⟨?_,?_,?_,?_,hall⟩⟩
   ·exact H5.out.os.trans (H4.out.1.b.os.trans (H3.out.2.os.trans (H2.out.2.os.trans H0.out.1.os)))
   ·exact H5.out.tape.trans (H4.out.1.b.tape.trans (H3.out.2.tape.trans (H2.out.2.tape.trans H0.out.1.tape)))
   ·exact H5.out.output.trans (H4.out.1.b.output.trans (H3.out.2.output.trans (H2.out.2.output.trans H0.out.1.output)))
   ·simp;omega
end Go.Proofs.YtehbinobohjadaaGreatDoor
namespace Go.Proofs.YtehbinobohjadaaGreatDoor
open Go.RowKit
set_option linter.unusedSectionVars false
variable [Inhabited TP]
def BU(t:Tn):Prop:=∀(w:World) (ka:Option Addr) (kc d:Nat),d≤61→NT w (·<w.heap.size) ka kc t→
 Calls Tryz.prog 25 #[.agg #[.string t.kind,.string t.word,.int .i64 t.num,.slice ka t.kids.length kc],.int .i64 d] w fun e w'=>∃k:Int,e=.returned (.int .i64 k)∧1≤k∧k≤16000000000000+1000 * (61 - d)∧(k≤200→SmT t)∧Below w.heap.size w w'
structure BxT(w0 w:World)(ab:Nat)(t:Tn)(ka:Option Addr)(kc:Nat):Prop where
 nr:NT w (·<w.heap.size) ka kc t
 n0:w.cell? ⟨ab,0,none⟩=some (.string t.kind)
 n1:w.cell? ⟨ab,1,none⟩=some (.string t.word)
 n2:w.cell? ⟨ab,2,none⟩=some (.int .i64 t.num)
 n3:w.cell? ⟨ab,3,none⟩=some (.slice ka t.kids.length kc)
 bel:Below w0.heap.size w0 w
theorem BxT.step{w0 w w':World}{ab:Nat}{t:Tn}{ka:Option Addr}{kc:Nat}(h:BxT w0 w ab t ka kc)(hb:Below w.heap.size w w'):BxT w0 w' ab t ka kc:=
 have hx:=fB h.n0
 ⟨h.nr.grow hb,(hb.cell (p:=⟨ab,0,none⟩) hx).trans h.n0,(hb.cell (p:=⟨ab,1,none⟩) hx).trans h.n1,(hb.cell (p:=⟨ab,2,none⟩) hx).trans h.n2,(hb.cell (p:=⟨ab,3,none⟩) hx).trans h.n3,h.bel.trans (hb.mono h.bel.size)⟩
theorem BxT.mk0{w W:World}{t:Tn}{ka:Option Addr}{kc:Nat}(hn:NT w (·<w.heap.size) ka kc t)(hW:W=w.alloc (.cells #[.string t.kind,.string t.word,.int .i64 t.num,.slice ka t.kids.length kc] 44)):BxT w W w.heap.size t ka kc:=by
 have hb:Below w.heap.size w W:=by rw[hW];exact bA _ _
 have hbk:W.heap[w.heap.size]?=some (.cells #[.string t.kind,.string t.word,.int .i64 t.num,.slice ka t.kids.length kc] 44 (0,0)):=by rw[hW];exact Go.Deep.blk_alloc_new w _
 refine⟨hn.grow hb,?_,?_,?_,?_,hb⟩
 ·rw[cell_of_row _ _ 0 _ _ _ hbk];rfl
 ·rw[cell_of_row _ _ 1 _ _ _ hbk];rfl
 ·rw[cell_of_row _ _ 2 _ _ _ hbk];rfl
 ·rw[cell_of_row _ _ 3 _ _ _ hbk];rfl
theorem nT{t:Tn}(hS:TnOk t)(ih:∀(i:Nat) (u:Tn),t.kids[i]?=some u→BU u):BU t:=by
 intro w ka kc d hd hn
 obtain⟨W,hW⟩:∃W,W=w.alloc (.cells #[.string t.kind,.string t.word,.int .i64 t.num,.slice ka t.kids.length kc] 44):=⟨_,rfl⟩
 obtain⟨ab,hab⟩:∃ab,ab=w.heap.size:=⟨_,rfl⟩
 have HS:Hid (BxT w W ab t ka kc):=by rw[hab];exact BxT.mk0 hn hW
 have n0:=HS.out.n0
 have n1:=HS.out.n1
 have n3:=HS.out.n3
 have HW:=aA (aI hW hab)
 have hlen:=hn.is.2.1
 have HI:=aA ih
 clear hn hW hab ih
 by_cases h60:60<d
 ·obtain rfl:d=61:=by omega
  go_enter Tryz.func25,Tryz.ntmps25
  go_upto_region 1 with fail
  rw[←HW.out.1,←HW.out.2]
  go_wp2
  go_ret
  exact⟨1000,rfl,by omega,by omega,fun h=>by omega,HS.out.bel⟩
 ·have hz:¬((60:Int)<(d:Int)):=by omega
  obtain⟨hdd,hw,_,_,_⟩:=hS.is
  obtain⟨q1,hq1⟩:∃q1:Int,(t.word.size:Int).tdiv 40=q1:=⟨_,rfl⟩
  obtain⟨q2,hq2⟩:∃q2:Int,(t.kind.size:Int).tdiv 40=q2:=⟨_,rfl⟩
  have e1:q1=(t.word.size:Int) / 40:=by rw[←hq1];exact Int.tdiv_eq_ediv_of_nonneg (by omega)
  have e2:q2=(t.kind.size:Int) / 40:=by rw[←hq2];exact Int.tdiv_eq_ediv_of_nonneg (by omega)
  have b1:0≤q1∧q1≤7036874417766:=by omega
  have b2:0≤q2∧q2≤7036874417766:=by omega
  obtain⟨b11,b12⟩:=b1
  obtain⟨b21,b22⟩:=b2
  have w1:IntKind.i64.wrap (1+q1)=1+q1:=by rw[IntKind.wrap_i64];omega
  have w2:IntKind.i64.wrap (1+q1+q2)=1+q1+q2:=by rw[IntKind.wrap_i64];omega
  have w3:IntKind.i64.wrap ((d:Int)+1)=((d+1:Nat):Int):=by rw[IntKind.wrap_i64];omega
  clear e1 e2 hw hdd hS
  obtain⟨kn,hkn⟩:∃kn,kn=t.kids.length:=⟨_,rfl⟩
  rw[←hkn] at n3 hlen
  have HK:=aA hkn
  have HPost:Hid (∀k:Int,(k≤200→(kn:Int)<k∧(∀(i:Nat) (u:Tn),t.kids[i]?=some u→SmT u))→(k≤200→SmT t)):=fun k h3 h4=>by
   obtain⟨h5,h6⟩:=h3 h4
   exact .mk t (by have:=HK.out;omega) h6
  clear hkn
  go_enter Tryz.func25,Tryz.ntmps25
  go_upto_region 1 with fail
  rw[←HW.out.1,←HW.out.2]
  go_wp2_with fail
  go_loopw [5,6] (fun s i wr=>∃(j:Nat) (k:Int),j≤kn∧i=.int .i64 j∧s=.int .i64 k∧1≤k∧k≤16000000000000+1000 * (61 - (d:Int))∧(k≤200→(j:Int)<k∧(∀(i:Nat) (u:Tn),(t.kids.take j)[i]?=some u→SmT u))∧BxT w wr ab t ka kc) (fun _ i _=>kn - (RowKit.intOf i).toNat)
  case atStart=>exact⟨0,1+q1+q2,by omega,rfl,by first|rfl|simp[w1,w2],by omega,by omega,fun _=>⟨by omega,fun i u h=>by simp at h⟩,HS.out⟩
  case round=>
   obtain⟨j,k,hj,rfl,rfl,hk1,hk2,hk3,hb⟩:=hrel
   have HKK:=aA (aI hk3 hb)
   have n3':=hb.n3
   rw[←HK.out] at n3'
   clear hk3 hb n3 n0 n1
   by_cases hlt:j<kn
   ·have hjz:(j:Int)<kn:=by omega
    by_cases hk9:k<1000
    ·obtain⟨u,hu⟩:∃u,t.kids[j]?=some u:=⟨_,List.getElem?_eq_getElem (by have:=HK.out;omega)⟩
     obtain⟨g,o,ka',kc',rfl,_,hyr,hur⟩:=HKK.out.2.nr.is.2.2 j u hu
     have x0:=hyr 0 _ rfl
     have x1:=hyr 1 _ rfl
     have x2:=hyr 2 _ rfl
     have x3:=hyr 3 _ rfl
     rw[Nat.add_zero] at x0
     have HC:=aA (HI.out j u hu wr ka' kc' (d+1) (by omega) hur)
     have HU:=aA hu
     clear hu hur hyr
     go_wp2_with (go_at_call 25;refine HC.out.mono ?_;rintro e w2 ⟨k2,rfl,y1,y2,y3,y4⟩;(have HY:=aA (aI y3 y4));(have wk:IntKind.i64.wrap (k+k2)=k+k2:=(by rw[IntKind.wrap_i64];omega));clear y3 y4)
     go_roundw
     case rel=>
      refine⟨j+1,k+k2,by omega,by go_num,rfl,by omega,by omega,fun h=>?_,HKK.out.2.step HY.out.2⟩
      obtain⟨h1,h2⟩:=HKK.out.1 (by omega)
      have h4:=HY.out.1 (by omega)
      refine⟨by omega,fun i v hv=>?_⟩
      rw[List.take_add_one,HU.out] at hv
      rcases List.mem_append.1 (List.mem_of_getElem? hv) with h|h
      ·obtain⟨i',hi'⟩:=List.getElem?_of_mem h
       exact h2 i' v hi'
      ·simp at h
       subst h
       exact h4
     case measure=>simp[RowKit.intOf];omega
    ·have hk8:decide (k<1000)=false:=by simp;omega
     have HB:=aA HKK.out.2.bel
     go_wp2
     go_ret
     exact⟨k,rfl,hk1,hk2,fun h=>by omega,HB.out⟩
   ·have hjz:¬(j:Int)<kn:=by omega
    have hjd:decide ((j:Int)<kn)=false:=by simp;omega
    have HB:=aA HKK.out.2.bel
    have HE:Hid (t.kids.take j=t.kids):=List.take_of_length_le (by have:=HK.out;omega)
    go_wp2
    go_ret
    exact⟨k,rfl,hk1,hk2,HPost.out k (fun h=>by obtain⟨h1,h2⟩:=HKK.out.1 h;rw[HE.out] at h2;exact⟨by omega,h2⟩),HB.out⟩
theorem CW:∀(n:Nat) (t:Tn),SizeOf.sizeOf t=n→TnOk t→BU t:=by
 intro n
 induction n using Nat.strongRecOn with
 |ind n ih=>
  intro t hn hS
  exact nT hS fun i u hu=>ih _ (by rw[←hn];exact gE hu) u rfl (hS.is.2.2.2.2 i u hu)
theorem UT{w:World}{ka:Option Addr}{kc:Nat}{t:Tn}(hS:TnOk t)(hn:NT w (·<w.heap.size) ka kc t):
 Calls Tryz.prog 10 #[.agg #[.string t.kind,.string t.word,.int .i64 t.num,.slice ka t.kids.length kc]] w fun e w'=>∃b:Bool,e=.returned (.bool b)∧(b=true→SmT t)∧Below w.heap.size w w':=by
 obtain⟨W,hW⟩:∃W,W=w.alloc (.cells #[.string t.kind,.string t.word,.int .i64 t.num,.slice ka t.kids.length kc] 44):=⟨_,rfl⟩
 obtain⟨ab,hab⟩:∃ab,ab=w.heap.size:=⟨_,rfl⟩
 have HS:Hid (BxT w W ab t ka kc):=by rw[hab];exact BxT.mk0 hn hW
 have n0:=HS.out.n0
 have n1:=HS.out.n1
 have n2:=HS.out.n2
 have n3:=HS.out.n3
 have HW:=aA (aI hW hab)
 have HC:=aA (CW _ t rfl hS W ka kc 0 (by omega) HS.out.nr)
 clear hn hW hab hS
 go_enter Tryz.func10,Tryz.ntmps10
 go_upto_region 1 with fail
 rw[←HW.out.1,←HW.out.2]
 go_wp2_with (go_at_call 25;refine HC.out.mono ?_;rintro e w2 ⟨k2,rfl,y1,y2,y3,y4⟩;(have HY:=aA (aI y3 (HS.out.step y4)));clear y3 y4)
 go_ret
 refine⟨decide (k2≤200),by simp,fun h=>?_,HY.out.2.bel⟩
 exact HY.out.1 (of_decide_eq_true h)
end Go.Proofs.YtehbinobohjadaaGreatDoor
namespace Go.Proofs.YtehbinobohjadaaGreatDoor
open Go.RowKit Go.Sort Go.Extern.Stop Go.Stop Go.Extern
set_option linter.unusedSectionVars false
variable [Inhabited TP]
def sA:ByteArray:=⟨#[97]⟩
def sB:ByteArray:=⟨#[98]⟩
def BW:ByteArray:=⟨#[99]⟩
def aW:SentW:={kind:=wRule,name:=sA,strength:=1,positive:=true,head:=sB,cond:=.mk qB BW 0 [],over:=[]}
def RN:ByteArray:=⟨#[114,117,108,101,32,97,58,32,98,32,105,102,32,99]⟩
theorem SU:EF RN 40=.ok aW:=by kernel_rfl
theorem RU:mD (dB RN) 40 0 0≠.out:=fun e=>by
 have h:(match mD (dB RN) 40 0 0 with
  | .out=>true
  |_=>false)=false:=by kernel_rfl
 rw[e] at h
 cases h
theorem NO{w:World}(hg:GlobQ w):Calls Tryz.prog 6 #[.string ⟨#[114,117,108,101,32,97,58,32,98,32,105,102,32,99]⟩] w fun e w'=>Below w.heap.size w w'∧∃cs,e=.returned (.tuple #[.agg cs,.bool true,.nilIface])∧cs.size=19∧cs.all (·.oneCell')=true∧cs[4]?=some (.string sB)∧cs[6]?=some (.string BW):=by
 refine(vR (s:=RN) (f:=40) (by decide) hg fun _ _=>RU).mono ?_
 rintro e w' ⟨h1,h2⟩
 rw[SU] at h2
 obtain⟨cs,e1,hC⟩:=h2
 obtain⟨ca,sa,cc,sc,oa,oc,hst,_⟩:=hC.st (wF _ _ _) (wF _ _ _) (by show 0≤_;omega)
 refine⟨h1,cs,e1,hst.one.1,hst.one.2,?_,?_⟩
 ·rw[hst.eq];rfl
 ·rw[hst.eq];rfl
theorem rQ{w:World}(hg:GlobQ w):Calls Tryz.prog 5 #[] w fun e w'=>e=.returned (.bool true)∧Below w.heap.size w w':=by
 have HL:=aA (NO hg)
 clear hg
 go_enter Tryz.func5,Tryz.ntmps5
 go_upto_region 2 with (first|(go_at_call 6;refine HL.out.mono ?_;rintro e V ⟨hb,cs,rfl,hz,ho,h4,h6⟩;(have HB:=aA hb);(have HZ:=aA (aI hz (aI ho (aI h4 h6))));clear hb hz ho h4 h6)|(refine wpList_store_row rfl 30 (.tmp 1) (.tmp 6) rfl V.heap.size cs (by simp[Act.eval]) (by simp[Act.eval]) 30 zS (heap_alloc_new V (.cells zS 30)) (infoSent.trans (by rw[HZ.out.1])) (by rw[GD,HZ.out.1]) HZ.out.2.1 ?_))
 rw[World.setRow_alloc_new]
 have hb6:Below V.heap.size V (V.alloc (.cells cs 30)):=bA _ _
 have HB6:=aA (HB.out.trans (hb6.mono HB.out.size))
 have x4:=dA (heap_alloc_new V (.cells cs 30)) HZ.out.2.2.1
 have x6:=dA (heap_alloc_new V (.cells cs 30)) HZ.out.2.2.2
 clear hb6
 generalize V.alloc (.cells cs 30)=V6 at *
 unfold sB at x4
 unfold BW at x6
 go_wp2
 go_ret
 exact⟨rfl,HB6.out⟩
end Go.Proofs.YtehbinobohjadaaGreatDoor
namespace Go.Proofs.YtehbinobohjadaaGreatDoor
open Go.ChangeShapes Go.WideShapes Go.ChangeAt Go.WideMaps Go.WideElems Go.RowKit
theorem Tryz.c_int3:Tryz.prog.cellsOf 3=1:=by kernel_rfl
theorem Tryz.c_bo3:Tryz.prog.cellsOf 4=1:=by kernel_rfl
theorem Tryz.c_st3:Tryz.prog.cellsOf 9=1:=by kernel_rfl
theorem Tryz.b_st3:Tryz.prog.bytesOf 9=16:=by kernel_rfl
theorem Tryz.c_ss3:Tryz.prog.cellsOf 26=1:=by kernel_rfl
theorem Tryz.c_tm3:Tryz.prog.cellsOf 45=3:=by kernel_rfl
theorem Tryz.c_se3:Tryz.prog.cellsOf 47=19:=by kernel_rfl
theorem Tryz.c_nd3:Tryz.prog.cellsOf 44=4:=by kernel_rfl
theorem Tryz.c_nds3:Tryz.prog.cellsOf 42=1:=by kernel_rfl
theorem Tryz.b_nd3:Tryz.prog.bytesOf 44=64:=by kernel_rfl
section
variable {H:Type} {enc:TypeId×Value→H} {W:World}
set_option maxRecDepth 100000 in
theorem WL{α:Type}{t e:TypeId}{k:Nat}(hk:0<k)(ht:Tryz.prog.underlying t=some (.slice e))(hc:Tryz.prog.cellsOf e=k){fuel:Nat}{v:Value}{x:DataW H×List MemPlace}
 (h:DataW.trod enc Tryz.prog W 0 (fun _=>true) true fuel t [v]=some x) (hw:∀y∈x.1.weights Tryz.prog t,y≤reachBytes) (P:α→List Value→Prop)
 (hone:∀n cs y,n<fuel→DataW.trod enc Tryz.prog W 0 (fun _=>true) true n e cs=some y→(∀z∈y.1.weights Tryz.prog e,z≤reachBytes)→∃a,P a cs):
 AP v∧∃a c,∃l:List α,v=.slice a l.length c∧l.length≤c∧l.length * Tryz.prog.bytesOf e≤reachBytes∧∀i r,l[i]?=some r→∃g o cs,a=some ⟨g,o,none⟩∧g<W.heap.size∧P r cs∧∀c,c<k→W.cell? ⟨g,o+i * k+c,none⟩=cs[c]?:=by
 rcases DataW.trod_slice ht h with ⟨h1,_⟩|⟨a,len,cap',elems,rest,m,hnm,h1,hx,_,hlc,_,helen,hel,_⟩
 ·injection h1 with h1 _
  subst h1
  exact⟨cU,none,0,[],rfl,by simp,by simp,fun i r hr=>by simp at hr⟩
 ·injection h1 with h1 _
  subst h1
  subst hx
  simp only[DataW.weights,ht] at hw
  have hw0:=hw _ (List.mem_cons_self ..)
  have hwe:∀d∈elems.map (·.1),∀z∈d.weights Tryz.prog e,z≤reachBytes:=fun d hd z hz=>hw z (List.mem_cons_of_mem _ (List.mem_append_left _ (SE _ _ _ hd z hz)))
  have hone2:∀i,i<len→∃a' cs,P a' cs∧∀c,c<k→W.cell? ((a.add (i * k)).add c)=cs[c]?:=fun i hi=>by
   have h2:=hel i hi
   obtain⟨y,hy⟩:∃y,elems[i]?=some y:=⟨_,List.getElem?_eq_getElem (by omega)⟩
   rw[hy,Option.bind_eq_some_iff] at h2
   obtain⟨cs1,h3,h5⟩:=h2
   rw[hc] at h3
   obtain⟨a',ha⟩:=hone _ _ _ (by omega) h5 (hwe y.1 (List.mem_map_of_mem (List.mem_of_getElem? hy)))
   exact⟨a',cs1,ha,(sH h3).2⟩
  refine⟨dU a len cap',some a,cap',?_⟩
  have hlist:∀n,n≤len→∃l:List α,l.length=n∧∀i r,l[i]?=some r→∃cs,P r cs∧∀c,c<k→W.cell? ((a.add (i * k)).add c)=cs[c]?:=fun n=>by
   induction n with
   |zero=>exact fun _=>⟨[],rfl,fun i r hr=>by simp at hr⟩
   |succ n ih=>
    intro hn
    obtain⟨l,hl,hp⟩:=ih (by omega)
    obtain⟨a',cs,h1,h2⟩:=hone2 n (by omega)
    refine⟨l++[a'],by simp[hl],fun i r hr=>?_⟩
    rcases Nat.lt_or_ge i n with hi|hi
    ·rw[List.getElem?_append_left (by omega)] at hr
     exact hp i r hr
    ·have hin:i=n:=by
      have:=(List.getElem?_eq_some_iff.1 hr).1
      simp at this
      omega
     subst hin
     rw[←hl] at hr
     simp at hr
     subst hr
     exact⟨cs,h1,h2⟩
  obtain⟨l,hl,hp⟩:=hlist len (nR _)
  refine⟨l,by rw[hl],by rw[hl];exact hlc,?_,fun i r hr=>?_⟩
  ·refine Nat.le_trans (Nat.mul_le_mul_right _ ?_) hw0
   rw[hl,List.length_map,helen]
   omega
  ·obtain⟨cs,h1,h2⟩:=hp i r hr
   have hi:i<len:=by have:=(List.getElem?_eq_some_iff.1 hr).1;omega
   have h4:=hel 0 (by omega)
   obtain⟨y,hy⟩:∃y,elems[0]?=some y:=⟨_,List.getElem?_eq_getElem (by omega)⟩
   rw[hy,Option.bind_eq_some_iff] at h4
   obtain⟨cs1,h5,_⟩:=h4
   rw[hc] at h5
   obtain⟨q1,q2⟩:=sH h5
   have q3:=q2 0 hk
   rw[List.getElem?_eq_getElem (by omega),show (a.add (0 * k)).add 0=a by simp[Addr.add]] at q3
   obtain⟨ab,ao,hb⟩:=TJ q3
   subst hb
   refine⟨ab,ao,cs,rfl,fB q3,h1,fun c hc2=>?_⟩
   rw[←h2 c hc2,zG,zG]
structure NdX where
 t:Tn
 ka:Option Addr
 kc:Nat
def NdX.cells(r:NdX):List Value:=[.string r.t.kind,.string r.t.word,.int .i64 r.t.num,.slice r.ka r.t.kids.length r.kc]
set_option maxRecDepth 100000 in
theorem IJ:∀(fuel:Nat) (cs:List Value) (x:DataW H×List MemPlace),DataW.trod enc Tryz.prog W 0 (fun _=>true) true fuel 44 cs=some x→(∀z∈x.1.weights Tryz.prog 44,z≤reachBytes)→∃r:NdX,cs=r.cells∧NT W (·<W.heap.size) r.ka r.kc r.t∧TnOk r.t:=by
 intro fuel
 induction fuel using Nat.strongRecOn with
 |ind fuel ih=>
  intro cs x hy hwy
  obtain⟨xs,m,hfu,hy1,hl,hlen,hf⟩:=DataW.trod_struct Tryz.underlying44 hy
  rw[Tryz.c_nd3] at hl
  have hlen:xs.length=4:=hlen
  match cs,hl,xs,hlen with
  | [u0,u1,u2,u3],_,[y0,y1,y2,y3],_=>
    have f0:=hf 0 _ rfl
    have f1:=hf 1 _ rfl
    have f2:=hf 2 _ rfl
    have f3:=hf 3 _ rfl
    have hw4:∀z,z∈y0.1.weights Tryz.prog 9++(y1.1.weights Tryz.prog 9++(y2.1.weights Tryz.prog 3++(y3.1.weights Tryz.prog 42++DataW.weightsEach Tryz.prog [] [])))→z≤reachBytes:=fun z hz=>hwy z (by
     rw[hy1]
     simp only[DataW.weights,Tryz.underlying44]
     exact hz)
    change DataW.trod enc Tryz.prog W 0 (fun _=>true) true m 9 ((List.drop 0 [u0,u1,u2,u3]).take (Tryz.prog.cellsOf 9))=some y0 at f0
    rw[Tryz.c_st3] at f0
    obtain⟨m0,e0,x0,_⟩:=DataW.trod_string Tryz.underlying9 f0
    have e0:[u0]=[Value.string m0]:=e0
    injection e0 with e0 _
    change DataW.trod enc Tryz.prog W 0 (fun _=>true) true m 9 ((List.drop 1 [u0,u1,u2,u3]).take (Tryz.prog.cellsOf 9))=some y1 at f1
    rw[Tryz.c_st3] at f1
    obtain⟨m1,e1,x1,_⟩:=DataW.trod_string Tryz.underlying9 f1
    have e1:[u1]=[Value.string m1]:=e1
    injection e1 with e1 _
    change DataW.trod enc Tryz.prog W 0 (fun _=>true) true m 3 ((List.drop 2 [u0,u1,u2,u3]).take (Tryz.prog.cellsOf 3))=some y2 at f2
    rw[Tryz.c_int3] at f2
    obtain⟨m2,e2,_,z2⟩:=DataW.trod_int Tryz.underlying3 f2
    have z2:=DW z2
    have e2:[u2]=[Value.int .i64 m2]:=e2
    injection e2 with e2 _
    change DataW.trod enc Tryz.prog W 0 (fun _=>true) true m 42 ((List.drop 3 [u0,u1,u2,u3]).take (Tryz.prog.cellsOf 42))=some y3 at f3
    rw[Tryz.c_nds3] at f3
    have f3:DataW.trod enc Tryz.prog W 0 (fun _=>true) true m 42 [u3]=some y3:=f3
    obtain⟨_,a,c,l,e3,hlc,hb,hx⟩:=WL (α:=NdX) (by decide) Tryz.underlying42 Tryz.c_nd3 f3 (fun z hz=>hw4 z (List.mem_append_right _ (List.mem_append_right _ (List.mem_append_right _ (List.mem_append_left _ hz)))))
     (fun r cs=>cs=r.cells∧NT W (·<W.heap.size) r.ka r.kc r.t∧TnOk r.t) (fun n cs y hn hy hwy=>ih n (by omega) cs y hy hwy)
    rw[Tryz.b_nd3] at hb
    unfold reachBytes at hb
    have hk0:m0.size≤140737488351232:=by
     have h9:=hw4 m0.data.toList.length (List.mem_append_left _ (by rw[x0];simp[DataW.weights]))
     unfold reachBytes at h9
     have h10:m0.data.toList.length=m0.size:=rfl
     omega
    have hk1:m1.size≤140737488351232:=by
     have h9:=hw4 m1.data.toList.length (List.mem_append_right _ (List.mem_append_left _ (by rw[x1];simp[DataW.weights])))
     unfold reachBytes at h9
     have h10:m1.data.toList.length=m1.size:=rfl
     omega
    have hget:∀(i:Nat) (u:Tn),(l.map NdX.t)[i]?=some u→∃r,l[i]?=some r∧r.t=u:=fun i u hu=>by
     rw[List.getElem?_map,Option.map_eq_some_iff] at hu
     exact hu
    refine⟨⟨.mk m0 m1 m2 (l.map NdX.t),a,c⟩,?_,?_,?_⟩
    ·show [u0,u1,u2,u3]=[Value.string m0,.string m1,.int .i64 m2,.slice a (l.map NdX.t).length c]
     rw[e0,e1,e2,e3,List.length_map]
    ·refine .mk _ a c (fun i=>((l[i]?).map NdX.ka).getD none) (fun i=>((l[i]?).map NdX.kc).getD 0) (fun i u hu=>?_) (fun i u hu=>?_) ?_ ?_
     ·obtain⟨r,hr,rfl⟩:=hget i u hu
      obtain⟨g,o,cs,e4,hg,⟨rfl,h5,h6⟩,h7⟩:=hx i r hr
      refine⟨g,o,e4,hg,fun j v hv=>?_⟩
      simp only[hr,Option.map_some,Option.getD_some] at hv
      exact(h7 j (List.getElem?_eq_some_iff.1 hv).1).trans hv
     ·obtain⟨r,hr,rfl⟩:=hget i u hu
      obtain⟨g,o,cs,e4,hg,⟨rfl,h5,h6⟩,h7⟩:=hx i r hr
      simp only[hr,Option.map_some,Option.getD_some]
      exact h5
     ·show (l.map NdX.t).length≤_
      rw[List.length_map]
      exact hlc
     ·show (l.map NdX.t).length≤_
      rw[List.length_map]
      omega
    ·refine .mk _ (Nat.le_trans hk0 (by decide)) (Nat.le_trans hk1 (by decide)) z2.1 z2.2 fun i u hu=>?_
     obtain⟨r,hr,rfl⟩:=hget i u hu
     obtain⟨g,o,cs,e4,hg,⟨rfl,h5,h6⟩,h7⟩:=hx i r hr
     exact h6
theorem vG{fuel:Nat}{cs:List Value}{y:DataW H×List MemPlace}(hy:DataW.trod enc Tryz.prog W 0 (fun _=>true) true fuel 9 cs=some y)(hw:∀z∈y.1.weights Tryz.prog 9,z≤reachBytes):∃m:ByteArray,cs=[.string m]∧m.size≤281474976710656:=by
 obtain⟨m0,e0,x0,_⟩:=DataW.trod_string Tryz.underlying9 hy
 refine⟨m0,e0,?_⟩
 have h9:=hw m0.data.toList.length (by rw[x0];simp[DataW.weights])
 unfold reachBytes at h9
 have h10:m0.data.toList.length=m0.size:=rfl
 omega
set_option maxRecDepth 100000 in
theorem UO{fuel:Nat}{v:Value}{x:DataW H×List MemPlace}(h:DataW.trod enc Tryz.prog W 0 (fun _=>true) true fuel 26 [v]=some x)(hw:∀y∈x.1.weights Tryz.prog 26,y≤reachBytes):AP v∧∃a c,∃l:List ByteArray,v=.slice a l.length c∧RdS stE W (·<W.heap.size) v l∧∀s,s∈l→s.size≤281474976710656:=by
 obtain⟨hn,a,c,l,e,_,hb,hx⟩:=aN (α:=ByteArray) (by decide) Tryz.underlying26 Tryz.c_st3 h hw (fun r cs=>cs=stE.f r∧r.size≤281474976710656) (fun n cs y hy hwy=>by
  obtain⟨m0,e0,hz⟩:=vG hy hwy
  exact⟨m0,e0,hz⟩)
 rw[Tryz.b_st3] at hb
 unfold reachBytes at hb
 refine⟨hn,a,c,l,e,⟨a,c,e,by omega,fun j r hr=>?_⟩,fun s hs=>?_⟩
 ·obtain⟨g,o,cs,e1,hg,⟨e2,_⟩,hc⟩:=hx j r hr
  subst e2
  exact⟨g,o,e1,hg,fun i u hu=>(hc i (List.getElem?_eq_some_iff.1 hu).1).trans hu⟩
 ·obtain⟨j,hj⟩:=List.getElem?_of_mem hs
  obtain⟨_,_,_,_,_,⟨_,e3⟩,_⟩:=hx j s hj
  exact e3
set_option maxRecDepth 100000 in
theorem zR{base:Nat}{v:Value}{d:DataW H}{ps:List MemPlace}
 (hval:Value.okWide Tryz.prog W .any base 38 v) (hd:DataW.Trod enc Tryz.prog W 0 (fun _=>true) true 38 v d ps) (hw:∀z∈d.weights Tryz.prog 38,z≤reachBytes):
 v=.pointer none∨∃b o x ca sa cc sc oa oc cs,v=.pointer (some ⟨b,o,none⟩)∧SOk x∧STc W (·<W.heap.size) x ca sa cc sc oa oc cs∧(oa=none→oc=0)∧∀(i:Nat) (v:Value),cs[i]?=some v→W.cell? ⟨b,o+i,none⟩=some v:=by
 rcases Go.ChangeShapes.open_ptr Tryz.underlying38 (by rw[Tryz.c_se3];decide) hval hd with ⟨h,_,_⟩|⟨pb,po,cs,y,fuel,rfl,rfl,_,hl,hcell,hy⟩
 ·exact .inl h
 right
 rw[Tryz.c_se3] at hl hcell
 obtain⟨xs,m,_,hy1,_,hlen,hf⟩:=DataW.trod_struct Tryz.underlying47 hy
 have hlen:xs.length=11:=hlen
 match cs,hl,xs,hlen with
 | [u0,u1,u2,u3,u4,u5,u6,u7,u8,u9,u10,u11,u12,u13,u14,u15,u16,u17,u18],_,[y0,y1,y2,y3,y4,y5,y6,y7,y8,y9,y10],_=>
   have f0:=hf 0 _ rfl
   have f1:=hf 1 _ rfl
   have f2:=hf 2 _ rfl
   have f3:=hf 3 _ rfl
   have f4:=hf 4 _ rfl
   have f5:=hf 5 _ rfl
   have f6:=hf 6 _ rfl
   have f7:=hf 7 _ rfl
   have f8:=hf 8 _ rfl
   have f9:=hf 9 _ rfl
   have f10:=hf 10 _ rfl
   change DataW.trod enc Tryz.prog W 0 (fun _=>true) true m 9 ((List.drop 0 [u0,u1,u2,u3,u4,u5,u6,u7,u8,u9,u10,u11,u12,u13,u14,u15,u16,u17,u18]).take (Tryz.prog.cellsOf 9))=some y0 at f0
   rw[Tryz.c_st3] at f0
   change DataW.trod enc Tryz.prog W 0 (fun _=>true) true m 9 [u0]=some y0 at f0
   change DataW.trod enc Tryz.prog W 0 (fun _=>true) true m 9 ((List.drop 1 [u0,u1,u2,u3,u4,u5,u6,u7,u8,u9,u10,u11,u12,u13,u14,u15,u16,u17,u18]).take (Tryz.prog.cellsOf 9))=some y1 at f1
   rw[Tryz.c_st3] at f1
   change DataW.trod enc Tryz.prog W 0 (fun _=>true) true m 9 [u1]=some y1 at f1
   change DataW.trod enc Tryz.prog W 0 (fun _=>true) true m 3 ((List.drop 2 [u0,u1,u2,u3,u4,u5,u6,u7,u8,u9,u10,u11,u12,u13,u14,u15,u16,u17,u18]).take (Tryz.prog.cellsOf 3))=some y2 at f2
   rw[Tryz.c_int3] at f2
   change DataW.trod enc Tryz.prog W 0 (fun _=>true) true m 3 [u2]=some y2 at f2
   change DataW.trod enc Tryz.prog W 0 (fun _=>true) true m 4 ((List.drop 3 [u0,u1,u2,u3,u4,u5,u6,u7,u8,u9,u10,u11,u12,u13,u14,u15,u16,u17,u18]).take (Tryz.prog.cellsOf 4))=some y3 at f3
   rw[Tryz.c_bo3] at f3
   change DataW.trod enc Tryz.prog W 0 (fun _=>true) true m 4 [u3]=some y3 at f3
   change DataW.trod enc Tryz.prog W 0 (fun _=>true) true m 9 ((List.drop 4 [u0,u1,u2,u3,u4,u5,u6,u7,u8,u9,u10,u11,u12,u13,u14,u15,u16,u17,u18]).take (Tryz.prog.cellsOf 9))=some y4 at f4
   rw[Tryz.c_st3] at f4
   change DataW.trod enc Tryz.prog W 0 (fun _=>true) true m 9 [u4]=some y4 at f4
   change DataW.trod enc Tryz.prog W 0 (fun _=>true) true m 44 ((List.drop 5 [u0,u1,u2,u3,u4,u5,u6,u7,u8,u9,u10,u11,u12,u13,u14,u15,u16,u17,u18]).take (Tryz.prog.cellsOf 44))=some y5 at f5
   rw[Tryz.c_nd3] at f5
   change DataW.trod enc Tryz.prog W 0 (fun _=>true) true m 44 [u5,u6,u7,u8]=some y5 at f5
   change DataW.trod enc Tryz.prog W 0 (fun _=>true) true m 44 ((List.drop 9 [u0,u1,u2,u3,u4,u5,u6,u7,u8,u9,u10,u11,u12,u13,u14,u15,u16,u17,u18]).take (Tryz.prog.cellsOf 44))=some y6 at f6
   rw[Tryz.c_nd3] at f6
   change DataW.trod enc Tryz.prog W 0 (fun _=>true) true m 44 [u9,u10,u11,u12]=some y6 at f6
   change DataW.trod enc Tryz.prog W 0 (fun _=>true) true m 3 ((List.drop 13 [u0,u1,u2,u3,u4,u5,u6,u7,u8,u9,u10,u11,u12,u13,u14,u15,u16,u17,u18]).take (Tryz.prog.cellsOf 3))=some y7 at f7
   rw[Tryz.c_int3] at f7
   change DataW.trod enc Tryz.prog W 0 (fun _=>true) true m 3 [u13]=some y7 at f7
   change DataW.trod enc Tryz.prog W 0 (fun _=>true) true m 26 ((List.drop 14 [u0,u1,u2,u3,u4,u5,u6,u7,u8,u9,u10,u11,u12,u13,u14,u15,u16,u17,u18]).take (Tryz.prog.cellsOf 26))=some y8 at f8
   rw[Tryz.c_ss3] at f8
   change DataW.trod enc Tryz.prog W 0 (fun _=>true) true m 26 [u14]=some y8 at f8
   change DataW.trod enc Tryz.prog W 0 (fun _=>true) true m 45 ((List.drop 15 [u0,u1,u2,u3,u4,u5,u6,u7,u8,u9,u10,u11,u12,u13,u14,u15,u16,u17,u18]).take (Tryz.prog.cellsOf 45))=some y9 at f9
   rw[Tryz.c_tm3] at f9
   change DataW.trod enc Tryz.prog W 0 (fun _=>true) true m 45 [u15,u16,u17]=some y9 at f9
   change DataW.trod enc Tryz.prog W 0 (fun _=>true) true m 9 ((List.drop 18 [u0,u1,u2,u3,u4,u5,u6,u7,u8,u9,u10,u11,u12,u13,u14,u15,u16,u17,u18]).take (Tryz.prog.cellsOf 9))=some y10 at f10
   rw[Tryz.c_st3] at f10
   change DataW.trod enc Tryz.prog W 0 (fun _=>true) true m 9 [u18]=some y10 at f10
   have hww:∀z,z∈y0.1.weights Tryz.prog 9++(y1.1.weights Tryz.prog 9++(y2.1.weights Tryz.prog 3++(y3.1.weights Tryz.prog 4++(y4.1.weights Tryz.prog 9++(y5.1.weights Tryz.prog 44++(y6.1.weights Tryz.prog 44++(y7.1.weights Tryz.prog 3++(y8.1.weights Tryz.prog 26++(y9.1.weights Tryz.prog 45++(y10.1.weights Tryz.prog 9++([])))))))))))→z≤reachBytes:=fun z hz=>hw z (by
    rw[hy1]
    simp only[DataW.weights,Tryz.underlying38,Tryz.underlying47]
    exact hz)
   have hw0:∀z,z∈y0.1.weights Tryz.prog 9→z≤reachBytes:=fun z hz=>hww z (List.mem_append_left _ hz)
   have hw1:∀z,z∈y1.1.weights Tryz.prog 9→z≤reachBytes:=fun z hz=>hww z (List.mem_append_right _ (List.mem_append_left _ hz))
   have hw2:∀z,z∈y2.1.weights Tryz.prog 3→z≤reachBytes:=fun z hz=>hww z (List.mem_append_right _ (List.mem_append_right _ (List.mem_append_left _ hz)))
   have hw3:∀z,z∈y3.1.weights Tryz.prog 4→z≤reachBytes:=fun z hz=>hww z (List.mem_append_right _ (List.mem_append_right _ (List.mem_append_right _ (List.mem_append_left _ hz))))
   have hw4:∀z,z∈y4.1.weights Tryz.prog 9→z≤reachBytes:=fun z hz=>hww z (List.mem_append_right _ (List.mem_append_right _ (List.mem_append_right _ (List.mem_append_right _ (List.mem_append_left _ hz)))))
   have hw5:∀z,z∈y5.1.weights Tryz.prog 44→z≤reachBytes:=fun z hz=>hww z (List.mem_append_right _ (List.mem_append_right _ (List.mem_append_right _ (List.mem_append_right _ (List.mem_append_right _ (List.mem_append_left _ hz))))))
   have hw6:∀z,z∈y6.1.weights Tryz.prog 44→z≤reachBytes:=fun z hz=>hww z (List.mem_append_right _ (List.mem_append_right _ (List.mem_append_right _ (List.mem_append_right _ (List.mem_append_right _ (List.mem_append_right _ (List.mem_append_left _ hz)))))))
   have hw7:∀z,z∈y7.1.weights Tryz.prog 3→z≤reachBytes:=fun z hz=>hww z (List.mem_append_right _ (List.mem_append_right _ (List.mem_append_right _ (List.mem_append_right _ (List.mem_append_right _ (List.mem_append_right _ (List.mem_append_right _ (List.mem_append_left _ hz))))))))
   have hw8:∀z,z∈y8.1.weights Tryz.prog 26→z≤reachBytes:=fun z hz=>hww z (List.mem_append_right _ (List.mem_append_right _ (List.mem_append_right _ (List.mem_append_right _ (List.mem_append_right _ (List.mem_append_right _ (List.mem_append_right _ (List.mem_append_right _ (List.mem_append_left _ hz)))))))))
   have hw9:∀z,z∈y9.1.weights Tryz.prog 45→z≤reachBytes:=fun z hz=>hww z (List.mem_append_right _ (List.mem_append_right _ (List.mem_append_right _ (List.mem_append_right _ (List.mem_append_right _ (List.mem_append_right _ (List.mem_append_right _ (List.mem_append_right _ (List.mem_append_right _ (List.mem_append_left _ hz))))))))))
   have hw10:∀z,z∈y10.1.weights Tryz.prog 9→z≤reachBytes:=fun z hz=>hww z (List.mem_append_right _ (List.mem_append_right _ (List.mem_append_right _ (List.mem_append_right _ (List.mem_append_right _ (List.mem_append_right _ (List.mem_append_right _ (List.mem_append_right _ (List.mem_append_right _ (List.mem_append_right _ (List.mem_append_left _ hz)))))))))))
   obtain⟨m0,e0,q0⟩:=vG f0 hw0
   injection e0 with e0 _
   obtain⟨m1,e1,q1⟩:=vG f1 hw1
   injection e1 with e1 _
   obtain⟨m2,e2,_,q2⟩:=DataW.trod_int Tryz.underlying3 f2
   injection e2 with e2 _
   obtain⟨m3,e3,_⟩:=DataW.trod_bool Tryz.underlying4 f3
   injection e3 with e3 _
   obtain⟨m4,e4,q4⟩:=vG f4 hw4
   injection e4 with e4 _
   obtain⟨r5,e5,n5,q5⟩:=IJ _ _ _ f5 hw5
   unfold NdX.cells at e5
   injection e5 with e5a e5
   injection e5 with e5b e5
   injection e5 with e5c e5
   injection e5 with e5d _
   obtain⟨r6,e6,n6,q6⟩:=IJ _ _ _ f6 hw6
   unfold NdX.cells at e6
   injection e6 with e6a e6
   injection e6 with e6b e6
   injection e6 with e6c e6
   injection e6 with e6d _
   obtain⟨m7,e7,_,q7⟩:=DataW.trod_int Tryz.underlying3 f7
   injection e7 with e7 _
   obtain⟨nv8,oa,oc,l8,e8,rd8,q8⟩:=UO (v:=u14) f8 hw8
   obtain⟨zs,m',_,_,_,hlen2,hf2⟩:=DataW.trod_struct Tryz.underlying45 f9
   have hlen2:zs.length=3:=hlen2
   obtain⟨z0,z1,z2,rfl⟩:∃z0 z1 z2,zs=[z0,z1,z2]:=by
    match zs,hlen2 with
    | [a,b,c],_=>exact⟨a,b,c,rfl⟩
   have g0:=hf2 0 _ rfl
   have g1:=hf2 1 _ rfl
   have g2:=hf2 2 _ rfl
   change DataW.trod enc Tryz.prog W 0 (fun _=>true) true m' 3 ((List.drop 0 [u15,u16,u17]).take (Tryz.prog.cellsOf 3))=some z0 at g0
   rw[Tryz.c_int3] at g0
   obtain⟨t0,te0,_,tq0⟩:=DataW.trod_int Tryz.underlying3 g0
   have te0:[u15]=[Value.int .i64 t0]:=te0
   injection te0 with te0 _
   change DataW.trod enc Tryz.prog W 0 (fun _=>true) true m' 3 ((List.drop 1 [u15,u16,u17]).take (Tryz.prog.cellsOf 3))=some z1 at g1
   rw[Tryz.c_int3] at g1
   obtain⟨t1,te1,_,tq1⟩:=DataW.trod_int Tryz.underlying3 g1
   have te1:[u16]=[Value.int .i64 t1]:=te1
   injection te1 with te1 _
   change DataW.trod enc Tryz.prog W 0 (fun _=>true) true m' 3 ((List.drop 2 [u15,u16,u17]).take (Tryz.prog.cellsOf 3))=some z2 at g2
   rw[Tryz.c_int3] at g2
   obtain⟨t2,te2,_,tq2⟩:=DataW.trod_int Tryz.underlying3 g2
   have te2:[u17]=[Value.int .i64 t2]:=te2
   injection te2 with te2 _
   obtain⟨m10,e10,q10⟩:=vG f10 hw10
   injection e10 with e10 _
   refine⟨pb,po,⟨m0,m1,m2,m3,m4,r5.t,r6.t,m7,l8,t0,t1,t2,m10⟩,r5.ka,r6.ka,r5.kc,r6.kc,oa,oc,#[.string m0,.string m1,.int .i64 m2,.bool m3,.string m4,.string r5.t.kind,.string r5.t.word,.int .i64 r5.t.num,.slice r5.ka r5.t.kids.length r5.kc,.string r6.t.kind,.string r6.t.word,.int .i64 r6.t.num,.slice r6.ka r6.t.kids.length r6.kc,.int .i64 m7,.slice oa l8.length oc,.int .i64 t0,.int .i64 t1,.int .i64 t2,.string m10],rfl,⟨q0,q1,q4,q10,q8,q5,q6,(DW tq0).1,(DW tq0).2⟩,⟨rfl,n5,n6,by rw[←e8];exact rd8⟩,fun h=>?_,fun i v hv=>?_⟩
   ·subst h
    exact nv8 _ _ e8
   ·have hi:i<19:=(Array.getElem?_eq_some_iff.1 hv).1
    refine(hcell i hi).trans ?_
    rw[e0,e1,e2,e3,e4,e5a,e5b,e5c,e5d,e6a,e6b,e6c,e6d,e7,e8,te0,te1,te2,e10]
    exact(List.getElem?_toArray ..).symm.trans hv
end
end Go.Proofs.YtehbinobohjadaaGreatDoor

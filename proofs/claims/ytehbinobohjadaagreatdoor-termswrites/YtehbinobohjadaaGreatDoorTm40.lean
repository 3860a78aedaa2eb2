import Derived.Test.YtehbinobohjadaaGreatDoorTm00
import Derived.Test.YtehbinobohjadaaGreatDoorTm39
import Derived.Maps.AppendAt
import Derived.Deep.RegionHeld3
import Derived.Deep.RegionLaw
set_option maxHeartbeats 20000000
set_option maxRecDepth 20000
namespace Go.Proofs.YtehbinobohjadaaGreatDoor
open Go.RowKit
set_option linter.unusedSectionVars false
variable [Inhabited TP]
def uW(t:Tn):Prop:=∀(w:World) (ka kb:Option Addr) (kc kd:Nat),NT w (·<w.heap.size) ka kc t→NT w (·<w.heap.size) kb kd t→Calls Tryz.prog 23 #[.agg (RA t ka kc),.agg (RA t kb kd)] w fun e w'=>e=.returned (.bool true)∧Below w.heap.size w w'
theorem VM{t:Tn}(ih:∀(i:Nat) (k:Tn),t.kids[i]?=some k→uW k):uW t:=by
 intro w ka kb kc kd ht hu
 obtain⟨W,hW⟩:∃W,W=(w.alloc (.cells (RA t ka kc) 44)).alloc (.cells (RA t kb kd) 44):=⟨_,rfl⟩
 have hb0:Below w.heap.size w W:=by rw[hW];exact(bA _ _).alloc (by simp) _
 have b1:W.heap[w.heap.size]?=some (.cells (RA t ka kc) 44 (0,0)):=by rw[hW,Go.Deep.blk_alloc_lt _ _ _ (by simp)];exact heap_alloc_new _ _
 have b2:W.heap[w.heap.size+1]?=some (.cells (RA t kb kd) 44 (0,0)):=by
  rw[hW]
  have:=heap_alloc_new (w.alloc (.cells (RA t ka kc) 44)) (.cells (RA t kb kd) 44)
  simpa using this
 have HI:=aA ih
 have HT:=aA ht
 have HU:=aA hu
 obtain⟨n,hn⟩:∃n,n=t.kids.length:=⟨_,rfl⟩
 have hl:=ht.is.2.1
 rw[←hn] at hl
 have HN:=aA hn
 have HB0:=aA hb0
 unfold RA at *
 rw[←hn] at hW b1 b2 ⊢
 have HW:=aA hW
 have H1:=aA b1
 have H2:=aA b2
 clear hW hb0 b1 b2 ih ht hu hn
 generalize t.kind=t0 at *
 generalize t.word=t1 at *
 generalize t.num=t2 at *
 go_enter Tryz.func23,Tryz.ntmps23
 go_upto_region 1 with fail
 rw[←HW.out]
 have x0:=dA H1.out (i:=0) rfl
 have x1:=dA H1.out (i:=1) rfl
 have x2:=dA H1.out (i:=2) rfl
 have x3:=dA H1.out (i:=3) rfl
 have y0:=dA H2.out (i:=0) rfl
 have y1:=dA H2.out (i:=1) rfl
 have y2:=dA H2.out (i:=2) rfl
 have y3:=dA H2.out (i:=3) rfl
 go_wp2_with fail
 clear x0 x1 x2 x3 y0 y1 y2 y3
 go_loopw [5] (fun i wr=>∃j:Nat,j≤n∧i=.int .i64 j∧Below W.heap.size W wr) (fun i _=>n - (RowKit.intOf i).toNat)
 case atStart=>exact⟨0,by omega,rfl,Below.refl _ _⟩
 case round=>
  obtain⟨j,hj,rfl,hb⟩:=hrel
  have HB:=aA hb
  have H1r:=aA (rC H1.out hb)
  have H2r:=aA (rC H2.out hb)
  have x3:=dA H1r.out (i:=3) rfl
  have y3:=dA H2r.out (i:=3) rfl
  clear hb
  by_cases hlt:j<n
  ·have hjz:(j:Int)<n:=by omega
   obtain⟨x,hx⟩:∃x,t.kids[j]?=some x:=⟨_,List.getElem?_eq_getElem (by have:=HN.out;omega)⟩
   obtain⟨b,o,a,c,rfl,hb,hrg,hnx⟩:=((HT.out.grow HB0.out).grow HB.out).is.2.2 j x hx
   obtain⟨b2,o2,a2,c2,rfl,hb2,hrg2,hny⟩:=((HU.out.grow HB0.out).grow HB.out).is.2.2 j x hx
   have HC:Hid (∀V,Below wr.heap.size wr V→Calls Tryz.prog 23 #[.agg (RA x a c),.agg (RA x a2 c2)] V fun e w'=>e=.returned (.bool true)∧Below V.heap.size V w'):=fun V hV=>HI.out j x hx V a a2 c c2 (hnx.grow hV) (hny.grow hV)
   have z0:=hrg 0 _ rfl
   have z1:=hrg 1 _ rfl
   have z2:=hrg 2 _ rfl
   have z3:=hrg 3 _ rfl
   rw[Nat.add_zero] at z0
   have v0:=hrg2 0 _ rfl
   have v1:=hrg2 1 _ rfl
   have v2:=hrg2 2 _ rfl
   have v3:=hrg2 3 _ rfl
   rw[Nat.add_zero] at v0
   unfold RA at HC
   clear hx hrg hrg2 hnx hny
   generalize x.kind=p0 at *
   generalize x.word=p1 at *
   generalize x.num=p2 at *
   generalize x.kids.length=p3 at *
   go_upto_region 6 with fail
   go_region_law
    (go_simp
     go_at_call 23
     refine(HC.out _ (Below.refl _ wr).drew).mono ?_
     rintro e w2 ⟨rfl,h9⟩
     have HB2:=aA (HB.out.trans (((Below.refl _ wr).drew.trans h9).mono HB.out.size))
     clear h9)
   all_goals
    go_wp2
    go_roundw
    case rel=>exact⟨j+1,hlt,by go_num,HB2.out⟩
    case measure=>simp[RowKit.intOf];omega
  ·have hjz:¬(j:Int)<n:=by omega
   go_wp2
   go_ret
   exact⟨rfl,HB0.out.trans (HB.out.mono HB0.out.size)⟩
theorem aO:∀(n:Nat) (t:Tn),SizeOf.sizeOf t=n→uW t:=by
 intro n
 induction n using Nat.strongRecOn with
 |ind n ih=>
  intro t hn
  exact VM fun i u hu=>ih _ (by rw[←hn];exact gE hu) u rfl
theorem RdS.cells{α:Type}{E:Enc α}{w:World}{S:Nat→Prop}{n c:Nat}{ad:Addr}{l:List α}(h:RdS E w S (.slice (some ad) n c) l):∀j u,(E.all l)[j]?=some u→w.cell? (ad.add j)=some u:=fun j u hu=>by
 have hj:j<l.length * E.k:=by
  have:=(List.getElem?_eq_some_iff.1 hu).1
  rwa [E.all_len] at this
 have hk:=E.pos
 have hi:j / E.k<l.length:=Nat.div_lt_of_lt_mul (by rw[Nat.mul_comm];exact hj)
 obtain⟨g,o,e,_,hr⟩:=h.at (List.getElem?_eq_getElem hi)
 injection e with e
 subst e
 have hm:j % E.k<(E.f l[j / E.k]).length:=by rw[E.len];exact Nat.mod_lt _ hk
 have h1:=E.all_get l (j / E.k) _ (List.getElem?_eq_getElem hi) (j % E.k) _ (List.getElem?_eq_getElem hm)
 have hdm:j / E.k * E.k+j % E.k=j:=by rw[Nat.mul_comm];exact Nat.div_add_mod j E.k
 rw[hdm,hu] at h1
 have h2:=hr (j % E.k) _ (List.getElem?_eq_getElem hm)
 rw[EU,←hdm,←Nat.add_assoc]
 rw[h2]
 exact h1.symm
section
variable {α:Type} {E:Enc α} {T S bytes:Nat}
theorem jT(hI:∃i z,Tryz.prog.info? T=some i∧i.zero=some z∧i.size=E.k∧i.bytes=bytes∧z.cells.size=E.k)(hby:bytes≤200)(hU:Tryz.prog.underlying S=some (.slice T)){W:World}{B:Nat}{v:Value}{l:List α}(hown:RowG E T W B v l)
 {Z:Nat→Prop} {a:Option Addr} {n c:Nat} {ys:List α} (hx:RdS E W Z (.slice a n c) ys) (hc:a=none→c=0) (hB:B≤W.heap.size) (hl:l.length+ys.length≤1000000) (ty:TypeId):
 ∃v' w',(Builtin.append_ #[S,S] ty #[v,.slice a n c]).run Tryz.prog W=.ok v' w'∧RowG E T w' B v' (l++ys)∧Below B W w'∧∀k,v.ownBlock≠some k→k<W.heap.size→w'.heap[k]?=W.heap[k]?:=by
 obtain⟨i0,z,h1,h2,h3,h4,h5⟩:=hI
 obtain⟨hn,_⟩:=hx.len
 cases a with
 |none=>
  have hy:ys=[]:=by
   cases ys with
   |nil=>rfl
   |cons x ls=>
    obtain⟨_,_,e,_⟩:=hx.at (j:=0) rfl
    cases e
  subst hy
  obtain rfl:n=0:=hn
  obtain rfl:c=0:=hc rfl
  exact⟨v,W,run_append_owned_none W B S ty T i0 E.k hU h1 v l.length (E.all l) hown.row,by rw[List.append_nil];exact hown,Below.refl _ _,fun _ _ _=>rfl⟩
 |some ad=>
  obtain⟨v',w',hr,hown',hgrow,_,_⟩:=run_append_own_at (P:=Tryz.prog) W B S ty T i0 z E.k bytes hU h1 h2 h3 h4 h5 E.pos v l.length (E.all l) hown.row ad n c (E.all ys) (by rw[E.all_len,hn]) hx.cells (E.all_one ys) (by unfold maxLen;omega) (by
   have h6:(l.length+n) * bytes≤1000000 * 200:=Nat.mul_le_mul (by omega) hby
   omega) hB
  refine⟨v',w',hr,⟨?_,by rw[List.length_append];omega⟩,(Below.refl B W).grown hgrow hB (fun k hk=>(hown.row.lt k hk).1),fun k hk hlt=>hgrow.block k hlt fun e=>hk e.symm⟩
  rw[List.length_append,E.all_app,←hn]
  exact hown'
theorem ER(hI:∃i z,Tryz.prog.info? T=some i∧i.zero=some z∧i.size=E.k∧i.bytes=bytes∧z.cells.size=E.k)(hby:bytes≤200)(hU:Tryz.prog.underlying S=some (.slice T)){W:World}{ops:Array Oper}{o:Oper}{at':Act}{K:Act→World→Prop}{Q:Exit→Act→World→Prop}{F:Prop}(hgd:o.guard=none)(s x:Operand)
 (ho:o.op=.call {callee:=.builtin .append,args:=#[s,x],argTypes:=#[S,S]}) (B:Nat) (v:Value) (l:List α) (ys:List α) {Z:Nat→Prop} {a:Option Addr} {n c:Nat} (hs:at'.eval s=v) (hown:RowG E T W B v l)
 (hxe:at'.eval x=.slice a n c) (hx:RdS E W Z (.slice a n c) ys) (hc:a=none→c=0) (hB:B≤W.heap.size) (hl:l.length+ys.length≤1000000)
 (h:∀v' w',RowG E T w' B v' (l++ys)→Below B W w'→(∀k,v.ownBlock≠some k→k<W.heap.size→w'.heap[k]?=W.heap[k]?)→K (at'.put o.dst v') w'):if Region.wanted o (yielded ops at'.tmps)=true then Oper.wp Tryz.prog o at' W K Q else F:=by
 have hw:Region.wanted o (yielded ops at'.tmps)=true:=by simp[Region.wanted,hgd]
 rw[if_pos hw]
 obtain⟨v',w',hr,h1,h2,h3⟩:=jT hI hby hU hown hx hc hB hl o.type
 unfold Oper.wp
 simp[execOp,ho,resolve,invoke,builtin,hs,hxe,hr,Result.andThen]
 exact h v' w' h1 h2 h3
end
def Rc(w V:World):Prop:=Below w.heap.size w V
theorem Rc.refl(w:World):Rc w w:=Below.refl _ _
theorem Rc.trans{a b c:World}(h:Rc a b)(k:Rc b c):Rc a c:=Below.trans h (Below.mono k h.size)
theorem Rc.drew{w V:World}(h:Rc w V):Rc w V.drew:=Below.drew h
theorem Rc.drewN{w V:World}(h:Rc w V)(n:Nat):Rc w (V.drewN n):=h.trans (Below.drewN_ V n)
theorem Rc.alloc{w V:World}(h:Rc w V)(o:Obj):Rc w (V.alloc o):=Below.alloc h h.size _
def oS(xk xn:ByteArray)(xs:Int)(xp:Bool)(xh ck cw:ByteArray)(cn:Int)(kv:Value)(sk sw:ByteArray)(sn:Int)(sv:Value)(xw:Int)(xe:ByteArray):Array Value:=#[.string xk,.string xn,.int .i64 xs,.bool xp,.string xh,.string ck,.string cw,.int .i64 cn,kv,.string sk,.string sw,.int .i64 sn,sv,.int .i64 xw,.slice none 0 0,.int .i64 0,.int .i64 0,.int .i64 0,.string xe]
end Go.Proofs.YtehbinobohjadaaGreatDoor

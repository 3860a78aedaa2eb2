import Derived.Test.YtehbinobohjadaaGreatDoorTm00
import Derived.Test.YtehbinobohjadaaGreatDoorTm28
import Derived.Test.YtehbinobohjadaaGreatDoorTm29
import Derived.Test.YtehbinobohjadaaGreatDoorTm08
import Derived.Test.YtehbinobohjadaaGreatDoorShelfI
import Derived.Lib.ItoaMem
import Derived.Lib.Walk
import Derived.WalkSmall
import Derived.Deep.RegionWith
set_option maxHeartbeats 20000000
set_option maxRecDepth 20000
namespace Go.Proofs.YtehbinobohjadaaGreatDoor
open Go.RowKit Go.Extern.Stop Go.Stop Go.Extern
set_option linter.unusedSectionVars false
variable [Inhabited TP]
theorem vR{s:ByteArray}(hs:s.size≤100000){w:World}(hg:GlobQ w){f:Nat}(hf:IC s=true→s.size≤300→mD (dB s) f 0 0≠.out):Calls Tryz.prog 6 #[.string s] w (MT s f w):=by
 cases hr:IC s with
 |false=>
  refine(gP hs hg hr).mono ?_
  rintro e w' ⟨rfl,hb⟩
  refine⟨hb,?_⟩
  rw[EF,hr]
  rfl
 |true=>
  rcases Nat.lt_or_ge 300 s.size with hl|hl
  ·refine(fP hs hg hr hl).mono ?_
   rintro e w' ⟨h,hb⟩
   refine⟨hb,?_⟩
   rw[EF,hr,if_pos rfl,if_pos hl]
   exact h
  ·refine(SM hl hg hr (hf hr hl)).mono ?_
   rintro e w' ⟨hb,h⟩
   refine⟨hb,?_⟩
   rw[EF,hr,if_pos rfl,if_neg (by omega)]
   rcases hq:mD (dB s) f 0 0 with _|⟨c,a⟩|⟨x,k,n⟩<;>rw[hq] at h<;>exact h
end Go.Proofs.YtehbinobohjadaaGreatDoor
namespace Go.Proofs.YtehbinobohjadaaGreatDoor
open Go.RowKit Go.Extern.Stop Go.Stop Go.Extern
def stE:Enc ByteArray:=⟨fun s=>[.string s],1,by decide,fun _=>rfl,fun s u h=>by
 obtain rfl:u=.string s:=by simpa using h
 rfl⟩
section
set_option linter.unusedSectionVars false
variable [Inhabited TP]
structure WR(w:World)(wp:Nat)(s:WS):Prop where
 blk:∃a n c,w.heap[wp]?=some (.cells #[.slice a n c,.int .i64 s.z,.int .i64 s.d] 65 (0,0))∧RowG stE 9 w (wp+1) (.slice a n c) s.ts
 z:s.z≤300
 d:s.d≤300
 l:s.ts.length≤s.z
 g:∃p:TA,w.cell? ⟨1,0,none⟩=some (.iface 189 (.pointer (some p.1)))
 lo:1<wp
structure WFr(wp:Nat)(w w':World):Prop where
 os:w'.os=w.os
 tape:w'.tape=w.tape
 output:w'.output=w.output
 size:w.heap.size≤w'.heap.size
 low:∀k,k<wp→w'.heap[k]?=w.heap[k]?
 ty:∀k cs t fr,k≠wp→w.heap[k]?=some (.cells cs t fr)→t≠9→w'.heap[k]?=some (.cells cs t fr)
theorem WFr.refl(wp:Nat)(w:World):WFr wp w w:=⟨rfl,rfl,rfl,nR _,fun _ _=>rfl,fun _ _ _ _ _ h _=>h⟩
theorem WFr.trans{wp:Nat}{a b c:World}(h:WFr wp a b)(k:WFr wp b c):WFr wp a c:=⟨k.os.trans h.os,k.tape.trans h.tape,k.output.trans h.output,Nat.le_trans h.size k.size,fun i hi=>(k.low i hi).trans (h.low i hi),fun i cs t fr h1 h2 h3=>k.ty i cs t fr h1 (h.ty i cs t fr h1 h2 h3) h3⟩
theorem WFr.of{wp:Nat}{w w':World}(h:Below w.heap.size w w')(hw:wp≤w.heap.size):WFr wp w w':=⟨h.os,h.tape,h.output,h.size,fun k hk=>h.block k (by omega),fun k cs t fr _ h2 _=>(h.block k (Array.getElem?_eq_some_iff.1 h2).1).trans h2⟩
theorem WFr.alloc{wp:Nat}{w w':World}(h:WFr wp w w')(hw:wp≤w'.heap.size)(o:Obj):WFr wp w (w'.alloc o):=h.trans (WFr.of (bA _ _) hw)
theorem WFr.below{wp:Nat}{w w':World}(h:WFr wp w w'):Below wp w w':=⟨h.os,h.tape,h.output,h.size,h.low⟩
theorem WFr.box{wp:Nat}{w w':World}(h:WFr wp w w'){b:Nat}{cs:Array Value}(hb:w.heap[b]?=some (.cells cs 25 (0,0)))(hw:b≠wp):w'.heap[b]?=some (.cells cs 25 (0,0)):=h.ty b cs _ _ hw hb (by decide)
theorem WR.in{w:World}{wp:Nat}{s:WS}(h:WR w wp s):wp<w.heap.size:=by
 obtain⟨a,n,c,h1,_⟩:=h.blk
 exact(Array.getElem?_eq_some_iff.1 h1).1
theorem WR.below{w w':World}{wp:Nat}{s:WS}(h:WR w wp s)(hb:Below w.heap.size w w'):WR w' wp s:=by
 obtain⟨a,n,c,h1,h2⟩:=h.blk
 obtain⟨p,h3⟩:=h.g
 exact⟨⟨a,n,c,(hb.block wp h.in).trans h1,h2.below hb⟩,h.z,h.d,h.l,⟨p,(hb.cell (p:=⟨1,0,none⟩) (fB h3)).trans h3⟩,h.lo⟩
theorem WR.alloc{w:World}{wp:Nat}{s:WS}(h:WR w wp s)(o:Obj):WR (w.alloc o) wp s:=h.below (bA _ _)
def CP(e:Ending):Prop:=∃p:TA,e=.panicked [{v:=.iface 88 (.agg #[.iface 189 (.pointer (some p.1))]),recovered:=false}]
def JF(wp:Nat)(w:World)(r:Option WS)(e:Ending)(w':World):Prop:=
 WFr wp w w'∧match r with
  |none=>CP e
  |some s=>e=.returned (.tuple #[])∧WR w' wp s
theorem Tryz.infoSt:∃i z,Tryz.prog.info? 9=some i∧i.zero=some z∧i.size=stE.k∧i.bytes=16∧z.cells.size=stE.k:=by
 have h:(Tryz.prog.info? 9).map (fun i=>(i.zero.map (fun z=>z.cells.size),i.size,i.bytes))=some (some 1,1,16):=by kernel_rfl
 obtain⟨i,hi,e⟩:=Option.map_eq_some_iff.1 h
 injection e with e1 e2
 injection e2 with e2 e3
 obtain⟨z,hz,e4⟩:=Option.map_eq_some_iff.1 e1
 exact⟨i,z,hi,hz,e2,e3,e4⟩
theorem WR.cells{w:World}{wp:Nat}{s:WS}(h:WR w wp s):∃a n c,w.cell? ⟨wp,0,none⟩=some (.slice a n c)∧w.cell? ⟨wp,1,none⟩=some (.int .i64 s.z)∧w.cell? ⟨wp,2,none⟩=some (.int .i64 s.d)∧(∀i,w.frozen? ⟨wp,i,none⟩=false)∧RowG stE 9 w (wp+1) (.slice a n c) s.ts∧w.heap[wp]?=some (.cells #[.slice a n c,.int .i64 s.z,.int .i64 s.d] 65 (0,0)):=by
 obtain⟨a,n,c,h1,h2⟩:=h.blk
 exact⟨a,n,c,by simp[World.cell?,h1],by simp[World.cell?,h1],by simp[World.cell?,h1],by simp[World.frozen?,h1],h2,h1⟩
theorem RK{w:World}{wp:Nat}{s:WS}{a:Option Addr}{n c:Nat}(hb:w.heap[wp]?=some (.cells #[.slice a n c,.int .i64 s.z,.int .i64 s.d] 65 (0,0)))(z:Int):
 (w.setCell ⟨wp,1,none⟩ (.int .i64 z)).heap[wp]?=some (.cells #[.slice a n c,.int .i64 z,.int .i64 s.d] 65 (0,0))∧WFr wp w (w.setCell ⟨wp,1,none⟩ (.int .i64 z)):=by
 refine⟨by rw[LA hb];rfl,rfl,rfl,rfl,by simp,fun k hk=>Below.heap_setCell _ _ _ _ (by show k≠wp;omega),fun k cs t fr h1 h2 _=>(Below.heap_setCell _ _ _ _ h1).trans h2⟩
theorem WR.setD{w:World}{wp:Nat}{s:WS}(h:WR w wp s)(d:Nat)(hd:d≤300):WR (w.setCell ⟨wp,2,none⟩ (.int .i64 d)) wp ⟨s.ts,s.z,d⟩∧WFr wp w (w.setCell ⟨wp,2,none⟩ (.int .i64 d)):=by
 obtain⟨a,n,c,h1,h2⟩:=h.blk
 obtain⟨p,h3⟩:=h.g
 have hk:∀k,k≠wp→(w.setCell ⟨wp,2,none⟩ (.int .i64 d)).heap[k]?=w.heap[k]?:=fun k hk=>Below.heap_setCell _ _ _ _ hk
 have:=h.lo
 refine⟨⟨⟨a,n,c,by rw[LA h1];rfl,h2.on fun g _ hg _=>hk g (by omega)⟩,h.z,hd,h.l,⟨p,(World.cell?_of_block (a:=⟨1,0,none⟩) (hk _ (by show 1≠wp;omega))).trans h3⟩,h.lo⟩,rfl,rfl,rfl,by simp,fun k hk2=>hk k (by omega),fun k cs t fr h5 h6 _=>(hk k h5).trans h6⟩
end
inductive NT(w:World)(P:Nat→Prop):Option Addr→Nat→Tn→Prop
 |mk (t:Tn) (ka:Option Addr) (kc:Nat) (A:Nat→Option Addr) (C:Nat→Nat)
  (hk:∀i k,t.kids[i]?=some k→∃b o,ka=some ⟨b,o,none⟩∧P b∧w.rangeAt b (o+i * 4) [.string k.kind,.string k.word,.int .i64 k.num,.slice (A i) k.kids.length (C i)])
  (hr:∀i k,t.kids[i]?=some k→NT w P (A i) (C i) k) (hc:t.kids.length≤kc) (hl:t.kids.length≤17592186044416):NT w P ka kc t
theorem NT.step{w w':World}{P P':Nat→Prop}{ka:Option Addr}{kc:Nat}{t:Tn}(h:NT w P ka kc t):(∀b,P b→w'.heap[b]?=w.heap[b]?∧P' b)→NT w' P' ka kc t:=by
 induction h with
 |mk t ka kc A C hk hr hc hl ih=>
  intro hb
  refine .mk t ka kc A C (fun i k e=>?_) (fun i k e=>ih i k e hb) hc hl
  obtain⟨b,o,e1,p,c⟩:=hk i k e
  have h9:=hb b p
  exact⟨b,o,e1,h9.2,OH c h9.1⟩
theorem NT.is{w:World}{P:Nat→Prop}{ka:Option Addr}{kc:Nat}{t:Tn}(h:NT w P ka kc t):t.kids.length≤kc∧t.kids.length≤17592186044416∧∀i k,t.kids[i]?=some k→∃b o a c,ka=some ⟨b,o,none⟩∧P b∧w.rangeAt b (o+i * 4) [.string k.kind,.string k.word,.int .i64 k.num,.slice a k.kids.length c]∧NT w P a c k:=by
 cases h with
 |mk _ _ _ A C hk hr hc hl=>
  refine⟨hc,hl,fun i k e=>?_⟩
  obtain⟨b,o,e1,p,c⟩:=hk i k e
  exact⟨b,o,A i,C i,e1,p,c,hr i k e⟩
def RA(t:Tn)(ka:Option Addr)(kc:Nat):Array Value:=#[.string t.kind,.string t.word,.int .i64 t.num,.slice ka t.kids.length kc]
end Go.Proofs.YtehbinobohjadaaGreatDoor
namespace Go.Proofs.YtehbinobohjadaaGreatDoor
open Go.RowKit Go.Extern.Stop Go.Stop Go.Extern
set_option linter.unusedSectionVars false
variable [Inhabited TP]
theorem kI:∀(l:List ByteArray) (s:WS) (x:ByteArray),CA s (l++[x])=(CA s l).bind fun s=>MA s x
 | [],s,x=>by simp only[List.nil_append,CA,Option.bind_some];cases MA s x<;>rfl
 |y::l,s,x=>by
  simp only[List.cons_append,CA]
  cases h:MA s y with
  |none=>rfl
  |some s'=>simp only[Option.bind_some];exact kI l s' x
theorem RJ{s:WS}{xs:List ByteArray}{j:Nat}{x:ByteArray}{st:WS}(hj:xs[j]?=some x)(h:CA s (xs.take j)=some st)(hx:MA st x=none):CA s xs=none:=by
 have e:xs=(xs.take j++[x])++xs.drop (j+1):=by
  have hlt:=(List.getElem?_eq_some_iff.1 hj).1
  conv=>lhs;rw[←List.take_append_drop j xs,List.drop_eq_getElem_cons hlt]
  rw[(List.getElem?_eq_some_iff.1 hj).2]
  simp
 have:∀(l:List ByteArray) (r:List ByteArray) (s:WS),CA s l=none→CA s (l++r)=none:=by
  intro l
  induction l with
  |nil=>intro r s h;cases h
  |cons y l ih=>
   intro r s h
   simp only[List.cons_append,CA] at h ⊢
   cases hy:MA s y with
   |none=>rfl
   |some s'=>rw[hy] at h;exact ih r s' h
 rw[e]
 exact this _ _ _ (by rw[kI,h];exact hx)
theorem bP{s:WS}{xs:List ByteArray}{j:Nat}{x:ByteArray}{st st':WS}(hj:xs[j]?=some x)(h:CA s (xs.take j)=some st)(hx:MA st x=some st'):CA s (xs.take (j+1))=some st':=by
 rw[List.take_add_one,hj]
 show CA s (xs.take j++[x])=_
 rw[kI,h]
 exact hx
theorem qV{α:Type}{E:Enc α}{T:Nat}{w:World}{B:Nat}{v:Value}{l:List α}(h:RowG E T w B v l){k:Nat}(hk:v.ownBlock=some k):∃cs,w.heap[k]?=some (.cells cs T (0,0)):=by
 rcases h.row.2 with ⟨rfl,e⟩|⟨g,cap,cur,rfl,hb,hgg,_⟩
 ·cases hk
 ·injection hk with hk
  subst hk
  exact⟨_,hgg⟩
theorem kS{wp:Nat}{W w2:World}{v:Value}{l:List ByteArray}(hr:RowG stE 9 W (wp+1) v l)(hb:Below (wp+1) W w2)(hk:∀k,v.ownBlock≠some k→k<W.heap.size→w2.heap[k]?=W.heap[k]?):WFr wp W w2:=
 ⟨hb.os,hb.tape,hb.output,hb.size,fun k h1=>hb.block k (by omega),fun k cs t fr _ h2 h3=>by
   refine(hk k (fun e=>?_) (Array.getElem?_eq_some_iff.1 h2).1).trans h2
   obtain⟨cs',h4⟩:=qV hr e
   rw[h2] at h4
   injection h4 with h4
   injection h4 with _ h4 _
   exact h3 h4⟩
theorem lS{wp:Nat}{W:World}(v:Value):WFr wp W (W.setCell ⟨wp,0,none⟩ v):=⟨rfl,rfl,rfl,by simp,fun k hk=>Below.heap_setCell _ _ _ _ (by show k≠wp;omega),fun k cs t fr h1 h2 _=>(Below.heap_setCell _ _ _ _ h1).trans h2⟩
structure WRg(w:World)(wp:Nat)(s:WS)(a:Option Addr)(n c g:Nat):Prop where
 blk:w.heap[wp]?=some (.cells #[.slice a n c,.int .i64 s.z,.int .i64 s.d] 65 (0,0))
 row:RowG stE 9 w (wp+1) (.slice a n c) s.ts
 ne:∀k,(Value.slice a n c).ownBlock=some k→k≠g
 z:s.z≤300
 d:s.d≤300
 l:s.ts.length≤s.z
 g:∃p:TA,w.cell? ⟨1,0,none⟩=some (.iface 189 (.pointer (some p.1)))
 lo:1<wp
theorem WRg.wr{w:World}{wp:Nat}{s:WS}{a:Option Addr}{n c g:Nat}(h:WRg w wp s a n c g):WR w wp s:=⟨⟨a,n,c,h.blk,h.row⟩,h.z,h.d,h.l,h.g,h.lo⟩
theorem WRg.start{w:World}{wp:Nat}{s:WS}(h:WR w wp s)(o:Obj):∃a n c,WRg (w.alloc o) wp s a n c w.heap.size:=by
 obtain⟨a,n,c,h1,h2⟩:=h.blk
 have h':=h.alloc o
 have hb:Below w.heap.size w (w.alloc o):=bA _ _
 exact⟨a,n,c,(hb.block wp h.in).trans h1,h2.below hb,fun k hk=>by have:=(h2.blk hk).2;omega,h.z,h.d,h.l,h'.g,h.lo⟩
theorem WRg.pushed{w0 W w2:World}{wp:Nat}{st:WS}{a:Option Addr}{n c g:Nat}{x:ByteArray}{ys:Array Value}{pa:Option Addr}{pn pc:Nat}(h:WRg w0 wp st a n c g)(hz:W.heap[wp]?=some (.cells #[.slice a n c,.int .i64 ((st.z:Int)+x.size),.int .i64 st.d] 65 (0,0)))
 (hgw:g<W.heap.size) (hgb:W.heap[g]?=some (.cells ys 9 (0,0))) (hgt:wp<g) (hr2:RowG stE 9 w2 (wp+1) (.slice pa pn pc) (st.ts++[x])) (hb2:Below (wp+1) W w2)
 (hk2:∀k,(Value.slice a n c).ownBlock≠some k→k<W.heap.size→w2.heap[k]?=W.heap[k]?) (hn2:∀k,(Value.slice pa pn pc).ownBlock=some k→(Value.slice a n c).ownBlock=some k∨W.heap.size≤k) (h3:1≤x.size∧st.z+x.size≤300)
 {p:TA} (hp:W.cell? ⟨1,0,none⟩=some (.iface 189 (.pointer (some p.1)))):
 WRg (w2.setCell ⟨wp,0,none⟩ (.slice pa pn pc)) wp ⟨st.ts++[x],st.z+x.size,st.d⟩ pa pn pc g∧(w2.setCell ⟨wp,0,none⟩ (.slice pa pn pc)).heap[g]?=some (.cells ys 9 (0,0)):=by
 have hs:∀k,k≠wp→(w2.setCell ⟨wp,0,none⟩ (.slice pa pn pc)).heap[k]?=w2.heap[k]?:=fun k hk=>Below.heap_setCell _ _ _ _ hk
 have hl:=h.l
 have hlo:=h.lo
 refine⟨⟨?_,hr2.on fun k _ hk _=>hs k (by omega),fun k hk=>?_,h3.2,h.d,?_,⟨p,?_⟩,hlo⟩,?_⟩
 ·rw[LA ((hb2.block wp (by omega)).trans hz)]
  show some (Obj.cells #[_,.int .i64 ((st.z:Int)+x.size),_] _ _)=some (Obj.cells #[_,.int .i64 ((st.z+x.size:Nat):Int),_] _ _)
  rw[Int.natCast_add]
 ·rcases hn2 k hk with e|e
  ·exact h.ne k e
  ·omega
 ·rw[List.length_append]
  simp only[List.length_singleton]
  omega
 ·rw[World.cell?_of_block (a:=⟨1,0,none⟩) ((hs _ (by show 1≠wp;omega)).trans (hb2.block _ (by show 1<_;omega)))]
  exact hp
 ·rw[hs g (by omega),hk2 g (fun e=>h.ne g e rfl) hgw]
  exact hgb
theorem XN{w0:World}{wp:Nat}{s:WS}(h:WR w0 wp s)(xs:List ByteArray)(hn:xs.length≤1000)(hx:∀x,x∈xs→x.size≤281474976710656):
 Calls Tryz.prog 45 #[.pointer (some ⟨wp,0,none⟩),.slice (some ⟨w0.heap.size,0,none⟩) xs.length xs.length] (w0.alloc (.cells (xs.map Value.string).toArray 9)) (JF wp w0 (CA s xs)):=by
 obtain⟨R,hR⟩:∃R,R=CA s xs:=⟨_,rfl⟩
 rw[←hR]
 have HR:=aA hR
 have hwp:wp≤w0.heap.size:=Nat.le_of_lt h.in
 have hf0:WFr wp w0 (w0.alloc (.cells (xs.map Value.string).toArray 9)):=(WFr.refl _ _).alloc hwp _
 obtain⟨a0,n0,c0,hst⟩:=WRg.start h (.cells (xs.map Value.string).toArray 9)
 have HS:=aA hst
 have HF:=aA hf0
 have hgb:(w0.alloc (.cells (xs.map Value.string).toArray 9)).heap[w0.heap.size]?=some (.cells (xs.map Value.string).toArray 9 (0,0)):=heap_alloc_new _ _
 have HGb:=aA hgb
 have hgt:wp<w0.heap.size:=h.in
 clear hst hf0 hgb hR
 generalize w0.alloc (.cells (xs.map Value.string).toArray 9)=w at *
 generalize hg:w0.heap.size=g at *
 have HX:=aA hx
 obtain⟨m,hm⟩:∃m,m=xs.length:=⟨_,rfl⟩
 rw[←hm]
 rw[←hm] at hn
 have HM:=aA hm
 clear hm hx hg
 go_enter Tryz.func45,Tryz.ntmps45
 go_wp2_with fail
 go_loopw [8] (fun iv wr=>∃(j:Nat) (st:WS) (a:Option Addr) (n c:Nat),j≤m∧iv=.int .i64 j∧CA s (xs.take j)=some st∧WRg wr wp st a n c g∧WFr wp w0 wr∧wr.heap[g]?=some (.cells (xs.map Value.string).toArray 9 (0,0))) (fun iv _=>(m - RowKit.intOf iv).toNat)
 case atStart=>exact⟨0,s,a0,n0,c0,by omega,rfl,rfl,HS.out,HF.out,HGb.out⟩
 case round=>
  obtain⟨j,st,a,n,c,hj,rfl,hp,hw,hf,hgb⟩:=hrel
  have HP:=aA hp
  have HW:=aA hw
  have HF1:=aA hf
  have HG1:=aA hgb
  clear hp hf
  by_cases hin:j<m
  ·have hjz:(j:Int)<m:=by omega
   obtain⟨x,hxj⟩:∃x,xs[j]?=some x:=⟨_,List.getElem?_eq_getElem (by have:=HM.out;omega)⟩
   have HXj:=aA hxj
   have hxz:=HX.out x (List.mem_of_getElem? hxj)
   have cx:wr.cell? ⟨g,0+j,none⟩=some (.string x):=by
    rw[Nat.zero_add]
    simp[World.cell?,hgb,hxj]
   rw[Nat.zero_add] at cx
   obtain⟨p,ct⟩:=hw.g
   have c0:wr.cell? ⟨wp,0,none⟩=some (.slice a n c):=by simp[World.cell?,hw.blk]
   have c1:wr.cell? ⟨wp,1,none⟩=some (.int .i64 st.z):=by simp[World.cell?,hw.blk]
   have f1:wr.frozen? ⟨wp,1,none⟩=false:=by simp[World.frozen?,hw.blk]
   have hz:=hw.z
   clear hw hgb hxj
   have HZ:=aA (RK HW.out.blk ((st.z:Int)+x.size))
   have HT:=aA (fun W=>IE 189 p W)
   have ct2:(wr.setCell ⟨wp,1,none⟩ (.int .i64 ((st.z:Int)+x.size))).cell? ⟨1,0,none⟩=some (.iface 189 (.pointer (some p.1))):=(HZ.out.2.below.cell (p:=⟨1,0,none⟩) HW.out.lo).trans ct
   by_cases h0:x.size=0
   ·have ct3:(wr.setCell ⟨wp,1,none⟩ (.int .i64 (st.z:Int))).cell? ⟨1,0,none⟩=some (.iface 189 (.pointer (some p.1))):=((RK HW.out.blk (st.z:Int)).2.below.cell (p:=⟨1,0,none⟩) HW.out.lo).trans ct
    have he:x.toList.isEmpty=true:=by rw[Lib.toList_data,List.isEmpty_iff];exact List.eq_nil_of_length_eq_zero (by rw[xA];exact h0)
    have HN:Hid (R=none):=by
     show _=_
     rw[HR.out]
     exact RJ HXj.out HP.out (by unfold MA;rw[if_pos (.inl h0)])
    go_wp2_with (go_at_call 50;refine(HT.out _).mono ?_;rintro e w' ⟨rfl,h9⟩;subst w')
    rw[HN.out]
    exact⟨rfl,HF1.out.trans (RK HW.out.blk (st.z:Int)).2,_,rfl⟩
   ·have he:x.toList.isEmpty=false:=by
     rw[Lib.toList_data]
     match hd:x.data.toList with
     | []=>exact absurd (by rw[←xA,hd];rfl) h0
     |_::_=>rfl
    by_cases h3:300<st.z+x.size
    ·have h3z:(300:Int)<(st.z:Int)+x.size:=by omega
     have HN:Hid (R=none):=by
      show _=_
      rw[HR.out]
      exact RJ HXj.out HP.out (by unfold MA;rw[if_pos (.inr h3)])
     go_wp2_with (go_at_call 50;refine(HT.out _).mono ?_;rintro e w' ⟨rfl,h9⟩;subst w')
     rw[HN.out]
     exact⟨rfl,HF1.out.trans HZ.out.2,_,rfl⟩
    ·have h3z:¬(300:Int)<(st.z:Int)+x.size:=by omega
     have HPn:Hid (MA st x=some ⟨st.ts++[x],st.z+x.size,st.d⟩):=by
      show _=_
      unfold MA
      rw[if_neg (by omega)]
     have HPt:=aA (bP HXj.out HP.out HPn.out)
     have hl:=HW.out.l
     have hln:st.ts.length+1≤1000000:=by omega
     obtain⟨W1,hW1⟩:∃W1,W1=wr.setCell ⟨wp,1,none⟩ (.int .i64 ((st.z:Int)+x.size)):=⟨_,rfl⟩
     rw[←hW1] at HZ ct2
     have hs1:W1.heap.size=wr.heap.size:=by rw[hW1];simp
     have hk1:∀k,k≠wp→W1.heap[k]?=wr.heap[k]?:=fun k hk=>by rw[hW1];exact Below.heap_setCell _ _ _ _ hk
     have HRow:=aA (HW.out.row.on (w':=W1) fun g' _ hg' _=>hk1 g' (by omega))
     have hwr:wp<wr.heap.size:=(Array.getElem?_eq_some_iff.1 HW.out.blk).1
     have HG2:Hid (W1.heap[g]?=some (.cells (xs.map Value.string).toArray 9 (0,0))):=(hk1 g (by omega)).trans HG1.out
     have hgw:g<W1.heap.size:=(Array.getElem?_eq_some_iff.1 HG2.out).1
     have hB1:wp+1≤W1.heap.size:=by omega
     have d0:W1.cell? ⟨wp,0,none⟩=some (.slice a n c):=by simp[World.cell?,HZ.out.1]
     have HW1:=aA hW1
     clear hW1 hk1
     have HSz:Hid (W1.heap.size=wr.heap.size):=hs1
     clear hs1
     go_upto_region 6 with fail
     rw[←HW1.out]
     go_wp2_with (at_builtin;go_loud (refine yF (E:=stE) Tryz.infoSt (by decide) Tryz.underlying26 rfl (.tmp 36) (.tmp 38) rfl (wp+1) (.slice a n c) st.ts x _ rfl (by simp[Act.eval]) HRow.out (by simp[Act.eval]) hB1 hln ?_);intro v' w2 hr2 hb2 hk2 hn2;(obtain⟨pa,pn,pc,rfl,hpn⟩:=hr2.any3);(have HN:=aA (WRg.pushed HW.out HZ.out.1 hgw HG2.out hgt hr2 hb2 hk2 hn2 (by omega) ct2));(have e0:w2.cell? ⟨wp,0,none⟩=some (.slice a n c):=by simp[World.cell?,(hb2.block wp (by omega)).trans HZ.out.1]);(have e1:w2.frozen? ⟨wp,0,none⟩=false:=by simp[World.frozen?,(hb2.block wp (by omega)).trans HZ.out.1]);have HF2:=aA ((HF1.out.trans HZ.out.2).trans (kS HRow.out hb2 hk2));clear hr2 hb2 hk2 hn2 hpn)
     go_roundw
     case rel=>exact⟨j+1,_,pa,pn,pc,by omega,by go_num,HPt.out,HN.out.1,HF2.out.trans (lS _),HN.out.2⟩
     case measure=>simp[RowKit.intOf];omega
  ·obtain rfl:j=m:=by omega
   have hjz:¬(j:Int)<j:=by omega
   have HE:Hid (R=some st):=by
    have:=HP.out
    rw[HM.out,List.take_length] at this
    show _=_
    rw[HR.out,this]
   go_wp2
   rw[HE.out]
   go_end0
   exact⟨HF1.out,rfl,HW.out.wr⟩
theorem tR(s:WS)(x:ByteArray):CA s [x]=MA s x:=by
 simp only[CA]
 cases MA s x<;>rfl
section
variable {w0:World} {wp:Nat} {s:WS}
theorem XA(h:WR w0 wp s){x:ByteArray}(hx:x.size≤281474976710656):Calls Tryz.prog 45 #[.pointer (some ⟨wp,0,none⟩),.slice (some ⟨w0.heap.size,0,none⟩) 1 1] (w0.alloc (.cells #[.string x] 9)) (JF wp w0 (MA s x)):=by
 rw[←tR]
 exact XN h [x] (by simp) (by simpa using hx)
theorem bD(h:WR w0 wp s){x y:ByteArray}(hx:x.size≤281474976710656)(hy:y.size≤281474976710656):Calls Tryz.prog 45 #[.pointer (some ⟨wp,0,none⟩),.slice (some ⟨w0.heap.size,0,none⟩) 2 2] (w0.alloc (.cells #[.string x,.string y] 9)) (JF wp w0 (CA s [x,y])):=
 XN h [x,y] (by simp) (fun z hz=>by
  simp only[List.mem_cons,List.not_mem_nil,or_false] at hz
  rcases hz with rfl|rfl<;>assumption)
theorem VE(h:WR w0 wp s){x y z:ByteArray}(hx:x.size≤281474976710656)(hy:y.size≤281474976710656)(hz:z.size≤281474976710656):Calls Tryz.prog 45 #[.pointer (some ⟨wp,0,none⟩),.slice (some ⟨w0.heap.size,0,none⟩) 3 3] (w0.alloc (.cells #[.string x,.string y,.string z] 9)) (JF wp w0 (CA s [x,y,z])):=
 XN h [x,y,z] (by simp) (fun u hu=>by
  simp only[List.mem_cons,List.not_mem_nil,or_false] at hu
  rcases hu with rfl|rfl|rfl<;>assumption)
theorem sR(h:WR w0 wp s){x y z t:ByteArray}(hx:x.size≤281474976710656)(hy:y.size≤281474976710656)(hz:z.size≤281474976710656)(ht:t.size≤281474976710656):Calls Tryz.prog 45 #[.pointer (some ⟨wp,0,none⟩),.slice (some ⟨w0.heap.size,0,none⟩) 4 4] (w0.alloc (.cells #[.string x,.string y,.string z,.string t] 9)) (JF wp w0 (CA s [x,y,z,t])):=
 XN h [x,y,z,t] (by simp) (fun u hu=>by
  simp only[List.mem_cons,List.not_mem_nil,or_false] at hu
  rcases hu with rfl|rfl|rfl|rfl<;>assumption)
theorem xB(h:WR w0 wp s):Calls Tryz.prog 91 #[.pointer (some ⟨wp,0,none⟩)] w0 (JF wp w0 (PA s)):=by
 obtain⟨a,n,c,c0,c1,c2,ff,_,_⟩:=h.cells
 obtain⟨p,ct⟩:=h.g
 have f2:=ff 2
 have hd:=h.d
 have HT:=aA (fun W=>IE 189 p W)
 have H:=aA h
 obtain⟨R,hR⟩:∃R,R=PA s:=⟨_,rfl⟩
 rw[←hR]
 have HR:=aA hR
 clear hR h ff
 by_cases h3:300<s.d+1
 ·have h3z:(300:Int)<(s.d:Int)+1:=by omega
  have HN:Hid (R=none):=by show _=_;rw[HR.out];unfold PA;rw[if_pos h3]
  have hd3:s.d=300:=by omega
  have HF:Hid (WFr wp w0 (w0.setCell ⟨wp,2,none⟩ (.int .i64 301))):=⟨rfl,rfl,rfl,by simp,fun k hk=>Below.heap_setCell _ _ _ _ (by show k≠wp;omega),fun k cs t fr h5 h6 _=>(Below.heap_setCell _ _ _ _ h5).trans h6⟩
  have ct2:(w0.setCell ⟨wp,2,none⟩ (.int .i64 301)).cell? ⟨1,0,none⟩=some (.iface 189 (.pointer (some p.1))):=(HF.out.below.cell (p:=⟨1,0,none⟩) H.out.lo).trans ct
  rw[hd3] at c2
  go_enter Tryz.func91,Tryz.ntmps91
  go_wp2_with (go_at_call 50;refine(HT.out _).mono ?_;rintro e w' ⟨rfl,h9⟩;subst w')
  rw[HN.out]
  exact⟨rfl,HF.out,_,rfl⟩
 ·have h3z:¬(300:Int)<(s.d:Int)+1:=by omega
  have HN:Hid (R=some ⟨s.ts,s.z,s.d+1⟩):=by show _=_;rw[HR.out];unfold PA;rw[if_neg h3]
  have HD:=aA (H.out.setD (s.d+1) (by omega))
  go_enter Tryz.func91,Tryz.ntmps91
  go_wp2
  go_end0
  rw[HN.out]
  have e:((s.d+1:Nat):Int)=(s.d:Int)+1:=by omega
  rw[e] at HD
  exact⟨HD.out.2,rfl,HD.out.1⟩
theorem qD(h:WR w0 wp s)(h1:1≤s.d):Calls Tryz.prog 94 #[.pointer (some ⟨wp,0,none⟩)] w0 (JF wp w0 (some (eC s))):=by
 obtain⟨a,n,c,c0,c1,c2,ff,_,_⟩:=h.cells
 have f2:=ff 2
 have hd:=h.d
 have HD:=aA (h.setD (s.d - 1) (by omega))
 have e:((s.d - 1:Nat):Int)=(s.d:Int) - 1:=by omega
 rw[e] at HD
 clear h ff
 go_enter Tryz.func94,Tryz.ntmps94
 go_wp2
 go_end0
 exact⟨HD.out.2,rfl,HD.out.1⟩
end
theorem ZA{w:World}{P:Nat→Prop}{t k:Tn}{ka:Option Addr}{kc i:Nat}(h:NT w P ka kc t)(hk:t.kids[i]?=some k):
 ∃a c,NT w P a c k∧Calls Tryz.prog 92 #[.agg (RA t ka kc),.int .i64 i] w fun e w'=>e=.returned (.agg (RA k a c))∧Below w.heap.size w w':=by
 obtain⟨hc,hl,hr⟩:=h.is
 obtain⟨b,o,a,c,rfl,hb,hx,hn⟩:=hr i k hk
 refine⟨a,c,hn,?_⟩
 have hlt:=(List.getElem?_eq_some_iff.1 hk).1
 have hW:Below w.heap.size w ((w.alloc (.cells (RA t (some ⟨b,o,none⟩) kc) 25)).alloc (.cells #[.string ⟨#[]⟩,.string ⟨#[]⟩,.int .i64 0,.slice none 0 0] 25)):=(bA _ _).alloc (by simp) _
 have hbw:b<w.heap.size:=fB (hx 0 _ rfl)
 have hx':=OH hx (hW.block b hbw)
 have x0:=hx' 0 _ rfl
 have x1:=hx' 1 _ rfl
 have x2:=hx' 2 _ rfl
 have x3:=hx' 3 _ rfl
 rw[Nat.add_zero] at x0
 unfold RA at *
 generalize t.kids.length=tl at *
 have hz:¬(tl:Int)≤i:=by omega
 have hiz:(i:Int)<tl:=by omega
 have HW:=aA hW
 clear hW hx hx' hr hn h hk
 generalize t.kind=t0 at *
 generalize t.word=t1 at *
 generalize t.num=t2 at *
 generalize k.kind=k0 at *
 generalize k.word=k1 at *
 generalize k.num=k2 at *
 generalize k.kids.length=kl at *
 go_enter Tryz.func92,Tryz.ntmps92
 go_wp2
 refine bodyPost_ret (v:=.agg #[.string k0,.string k1,.int .i64 k2,.slice a kl c]) (by simp[results,Tryz.results92,go_sem]) rfl ?_
 refine⟨rfl,?_⟩
 exact(bA _ _).alloc (by simp) _
theorem NB{w:World}{wp:Nat}{s:WS}(hw:WR w wp s){t:Tn}{ka:Option Addr}{kc i:Nat}(hk:t.kids[i]?=none):
 Calls Tryz.prog 92 #[.agg (RA t ka kc),.int .i64 i] w fun e w'=>CP e∧Below w.heap.size w w':=by
 have hge:t.kids.length≤i:=by
  rcases Nat.lt_or_ge i t.kids.length with h|h
  ·rw[List.getElem?_eq_getElem h] at hk;cases hk
  ·exact h
 obtain⟨p,ct⟩:=hw.g
 have hW:Below w.heap.size w ((w.alloc (.cells (RA t ka kc) 25)).alloc (.cells #[.string ⟨#[]⟩,.string ⟨#[]⟩,.int .i64 0,.slice none 0 0] 25)):=(bA _ _).alloc (by simp) _
 have ct2:=(hW.cell (p:=⟨1,0,none⟩) (fB ct)).trans ct
 have HT:=aA (fun W=>IE 189 p W)
 unfold RA at *
 generalize t.kids.length=tl at *
 have hz:(tl:Int)≤i:=by omega
 have HW:=aA hW
 clear hW hk hw
 generalize t.kind=t0 at *
 generalize t.word=t1 at *
 generalize t.num=t2 at *
 go_enter Tryz.func92,Tryz.ntmps92
 go_wp2_with (go_at_call 50;refine(HT.out _).mono ?_;rintro e w' ⟨rfl,h9⟩;subst w')
 exact⟨rfl,⟨_,rfl⟩,HW.out⟩
end Go.Proofs.YtehbinobohjadaaGreatDoor
namespace Go.Proofs.YtehbinobohjadaaGreatDoor
open Go.RowKit Go.Sort Go.Extern.Stop Go.Stop Go.Extern
def TabW(w:World):Prop:=Lib.TabIs Tryz.prog w "internal/strconv.uint64pow10" .u64 Lib.pow10Tab
theorem TabW.lt{w:World}(h:TabW w):13<w.heap.size:=by
 have hg:Tryz.prog.globalNamed "internal/strconv.uint64pow10"=some 13:=by kernel_rfl
 rcases Nat.lt_or_ge 13 w.heap.size with k|k
 ·exact k
 ·have h':w.var? Tryz.prog "internal/strconv.uint64pow10"=_:=h
  simp[World.var?,hg,Array.getElem?_eq_none k] at h'
theorem TabW.below{w w':World}{B:Nat}(h:TabW w)(hb:Below B w w')(hB:13<B):TabW w':=
 var?_below hb (by kernel_rfl) hB h
theorem uM(w:World)(k:Nat)(os:Array Obj):Below w.heap.size w (grow (w.drewN k) os):=
 ⟨rfl,rfl,rfl,by first|(simp[grow];done)|(simp[grow];omega),fun i hi=>by
   show ((w.drewN k).heap++os)[i]?=_
   rw[Array.getElem?_append_left (by show i<w.heap.size;omega)]
   rfl⟩
theorem bH{w:World}(h:TabW w){n:Int}(h0:-9223372036854775808≤n)(h1:n≤9223372036854775807):Calls Tryz.prog 99 #[.int .i64 n] w fun e w'=>e=.returned (.string (TC n))∧Below w.heap.size w w':=by
 refine(Go.Proofs.Tryz.strconv_Itoa n h0 h1 w h).mono ?_
 rintro e w' ⟨rfl,k,os,rfl⟩
 exact⟨rfl,uM w k os⟩
theorem NI(n:Int)(m:Int)(hm:1≤m)(h0:-9223372036854775808≤n)(h1:n≤9223372036854775807):-9223372036854775808≤n.tdiv m∧n.tdiv m≤9223372036854775807:=by
 have h2:=Int.natAbs_tdiv n m
 have h3:(n.tdiv m).natAbs≤n.natAbs:=by rw[h2];exact Nat.div_le_self _ _
 by_cases hn:n<0
 ·constructor
  ·omega
  ·have h4:n.tdiv m≤0:=by
    have:=Int.tdiv_nonneg (a:=-n) (b:=m) (by omega) (by omega)
    rw[Int.neg_tdiv] at this
    omega
   omega
 ·have h4:=Int.tdiv_nonneg (show 0≤n by omega) (show 0≤m by omega)
  omega
theorem OI(n:Int)(m:Int)(hm:1≤m):-m<n.tmod m∧n.tmod m<m:=⟨by have:=Int.tmod_lt_of_pos (-n) (show 0<m by omega);rw[Int.neg_tmod] at this;omega,Int.tmod_lt_of_pos n (by omega)⟩
theorem cH:∀(f u:Nat),u<10 ^ (f+1)→1≤Lib.nDigits u∧Lib.nDigits u≤f+1
 |0,u,h=>by rw[Lib.nDigits_small (by simpa using h)];omega
 |f+1,u,h=>by
  by_cases h10:u<10
  ·rw[Lib.nDigits_small h10];omega
  ·have:=cH f (u / 10) (by rw[Nat.pow_succ] at h;omega)
   have e:Lib.nDigits u=Lib.nDigits (u / 10)+1:=by
    rw[←Lib.decDigits_length,←Lib.decDigits_length,Lib.decDigits,dif_neg h10];simp
   omega
theorem iD{n:Int}(h0:-9223372036854775808≤n)(h1:n≤9223372036854775807):1≤(TC n).size∧(TC n).size≤21:=by
 have e:(TC n).size=(Lib.itoa n).length:=by show (Lib.itoa n).toArray.size=_;simp
 rw[e]
 unfold Lib.itoa
 split
 ·rw[List.length_cons,Lib.decDigits_length]
  have:=cH 19 n.natAbs (by omega)
  omega
 ·rw[Lib.decDigits_length]
  have:=cH 19 n.toNat (by omega)
  omega
theorem KH{w:World}(h:TabW w){n:Int}(h0:-9223372036854775808≤n)(h1:n≤9223372036854775807):Calls Tryz.prog 126 #[.int .i64 n] w fun e w'=>e=.returned (.string (bJ n))∧Below w.heap.size w w':=by
 have b1:=NI n 100 (by omega) h0 h1
 have b2:=OI n 100 (by omega)
 have b3:=NI (n.tmod 100) 10 (by omega) (by omega) (by omega)
 have b4:=OI n 10 (by omega)
 have H1:=aA (fun W (hb:Below w.heap.size w W)=>bH (h.below hb h.lt) b1.1 b1.2)
 have H2:=aA (fun W (hb:Below w.heap.size w W)=>bH (h.below hb h.lt) b3.1 b3.2)
 have H3:=aA (fun W (hb:Below w.heap.size w W)=>bH (n:=n.tmod 10) (h.below hb h.lt) (by omega) (by omega))
 have HE:Hid (bJ n=if n.tmod 100=0 then TC (n.tdiv 100) else TC (n.tdiv 100)++⟨#[46]⟩++TC ((n.tmod 100).tdiv 10)++TC (n.tmod 10)):=rfl
 generalize bJ n=O at *
 by_cases hz:n.tmod 100=0
 ·have hzb:(n.tmod 100==0)=true:=by rw[hz];rfl
  have HO:Hid (O=TC (n.tdiv 100)):=by show _=_;rw[HE.out,if_pos hz]
  clear HE hz H2 H3
  go_enter Tryz.func126,Tryz.ntmps126
  go_wp2_with (go_at_call 99;refine(H1.out _ (Below.refl _ _)).mono ?_;rintro e w' ⟨rfl,hb⟩;have HB:=aA hb;clear hb)
  go_ret
  exact⟨by rw[HO.out];rfl,HB.out⟩
 ·have hzb:(n.tmod 100==0)=false:=by rw[beq_eq_false_iff_ne];exact hz
  have HO:Hid (O=TC (n.tdiv 100)++⟨#[46]⟩++TC ((n.tmod 100).tdiv 10)++TC (n.tmod 10)):=by show _=_;rw[HE.out,if_neg hz]
  have z1:=(iD b1.1 b1.2).2
  have z2:=(iD b3.1 b3.2).2
  have z3:=(iD (n:=n.tmod 10) (by omega) (by omega)).2
  have y1:¬9223372036854775807<(TC (n.tdiv 100)).size+1:=by omega
  have y2:¬9223372036854775807<(TC (n.tdiv 100)).size+1+(TC ((n.tmod 100).tdiv 10)).size:=by omega
  have y3:¬9223372036854775807<(TC (n.tdiv 100)).size+1+(TC ((n.tmod 100).tdiv 10)).size+(TC (n.tmod 10)).size:=by omega
  clear HE hz
  go_enter Tryz.func126,Tryz.ntmps126
  go_upto_region 2 with (go_at_call 99;refine(H1.out _ (Below.refl _ _)).mono ?_;rintro e w1 ⟨rfl,hb⟩;have HB:=aA hb;clear hb)
  clear H1
  go_wp2_with (first|(go_at_call 99;refine(H3.out _ HB2.out).mono ?_;rintro e w3 ⟨rfl,hb⟩;have HB3:=aA (HB2.out.trans (hb.mono HB2.out.size));clear hb)|(go_at_call 99;refine(H2.out _ HB.out).mono ?_;rintro e w2 ⟨rfl,hb⟩;have HB2:=aA (HB.out.trans (hb.mono HB.out.size));clear hb))
  go_ret
  exact⟨by rw[HO.out];rfl,HB3.out⟩
theorem fA{k x:ByteArray}{l:List UInt8}{b:Bool}(h:(k.toList==l)=b)(hx:x.data.toList=l):vA k x=b:=by
 unfold vA
 rw[Lib.toList_data x,hx]
 exact h
theorem PD(k:ByteArray)(w:World):Calls Tryz.prog 125 #[.string k] w fun e w'=>e=.returned (.int .i64 (xL k))∧w'=w:=by
 have hL:Hid (xL k=if vA k (sg 43)=true∨vA k (sg 45)=true then 0 else if vA k (sg 42)=true then 1 else 2):=rfl
 generalize xL k=L at *
 cases h0:(k.toList==[43])
 ·cases h1:(k.toList==[45])
  ·cases h2:(k.toList==[42])
   ·have HE:Hid (L=2):=by show _=_;rw[hL.out,fA h0 rfl,fA h1 rfl,fA h2 rfl];rfl
    go_enter Tryz.func125,Tryz.ntmps125
    go_wp2
    go_ret
    exact⟨by rw[HE.out];rfl,rfl⟩
   ·have HE:Hid (L=1):=by show _=_;rw[hL.out,fA h0 rfl,fA h1 rfl,fA h2 rfl];rfl
    go_enter Tryz.func125,Tryz.ntmps125
    go_wp2
    go_ret
    exact⟨by rw[HE.out];rfl,rfl⟩
  ·have HE:Hid (L=0):=by show _=_;rw[hL.out,fA h0 rfl,fA h1 rfl];rfl
   go_enter Tryz.func125,Tryz.ntmps125
   go_wp2
   go_ret
   exact⟨by rw[HE.out];rfl,rfl⟩
 ·have HE:Hid (L=0):=by show _=_;rw[hL.out,fA h0 rfl,if_pos (.inl rfl)]
  go_enter Tryz.func125,Tryz.ntmps125
  go_wp2
  go_ret
  exact⟨by rw[HE.out];rfl,rfl⟩
theorem kC(k:ByteArray)(w:World):Calls Tryz.prog 90 #[.string k] w fun e w'=>e=.returned (.int .i64 (AJ k))∧w'=w:=by
 have hL:Hid (AJ k=if vA k wOr=true then 0 else if vA k wAnd=true then 1 else if vA k wNot=true then 2 else 3):=rfl
 generalize AJ k=L at *
 cases h0:(k.toList==[111,114])
 ·cases h1:(k.toList==[97,110,100])
  ·cases h2:(k.toList==[110,111,116])
   ·have HE:Hid (L=3):=by show _=_;rw[hL.out,fA h0 rfl,fA h1 rfl,fA h2 rfl];rfl
    go_enter Tryz.func90,Tryz.ntmps90
    go_wp2
    go_ret
    exact⟨by rw[HE.out];rfl,rfl⟩
   ·have HE:Hid (L=2):=by show _=_;rw[hL.out,fA h0 rfl,fA h1 rfl,fA h2 rfl];rfl
    go_enter Tryz.func90,Tryz.ntmps90
    go_wp2
    go_ret
    exact⟨by rw[HE.out];rfl,rfl⟩
  ·have HE:Hid (L=1):=by show _=_;rw[hL.out,fA h0 rfl,fA h1 rfl];rfl
   go_enter Tryz.func90,Tryz.ntmps90
   go_wp2
   go_ret
   exact⟨by rw[HE.out];rfl,rfl⟩
 ·have HE:Hid (L=0):=by show _=_;rw[hL.out,fA h0 rfl];rfl
  go_enter Tryz.func90,Tryz.ntmps90
  go_wp2
  go_ret
  exact⟨by rw[HE.out];rfl,rfl⟩
inductive TnOk:Tn→Prop
 |mk (t:Tn) (h0:t.kind.size≤281474976710656) (h1:t.word.size≤281474976710656) (h2:-9223372036854775808≤t.num) (h3:t.num≤9223372036854775807) (hk:∀(i:Nat) (k:Tn),t.kids[i]?=some k→TnOk k):TnOk t
theorem TnOk.is{t:Tn}(h:TnOk t):t.kind.size≤281474976710656∧t.word.size≤281474976710656∧-9223372036854775808≤t.num∧t.num≤9223372036854775807∧∀(i:Nat) (k:Tn),t.kids[i]?=some k→TnOk k:=by
 cases h with
 |mk _ h0 h1 h2 h3 hk=>exact⟨h0,h1,h2,h3,hk⟩
set_option linter.unusedSectionVars false
variable [Inhabited TP]
structure SW(w0 W:World)(wp:Nat)(s:WS):Prop where
 wr:WR W wp s
 fr:WFr wp w0 W
 tb:TabW W
 lo:13<wp
theorem SW.step{w0 W W':World}{wp:Nat}{s s':WS}(h:SW w0 W wp s)(hf:WFr wp W W')(hr:WR W' wp s'):SW w0 W' wp s':=⟨hr,h.fr.trans hf,h.tb.below hf.below h.lo,h.lo⟩
theorem SW.grow{w0 W W':World}{wp:Nat}{s:WS}(h:SW w0 W wp s)(hb:Below W.heap.size W W'):SW w0 W' wp s:=h.step (WFr.of hb (Nat.le_of_lt h.wr.in)) (h.wr.below hb)
theorem SW.alloc{w0 W:World}{wp:Nat}{s:WS}(h:SW w0 W wp s)(o:Obj):SW w0 (W.alloc o) wp s:=h.grow (bA _ _)
structure BX(W:World)(wp b:Nat)(t:Tn)(ka:Option Addr)(kc:Nat):Prop where
 bx:W.heap[b]?=some (.cells (RA t ka kc) 25 (0,0))
 nt:NT W (·<wp) ka kc t
 ne:wp<b
theorem BX.step{W W':World}{wp b:Nat}{t:Tn}{ka:Option Addr}{kc:Nat}(h:BX W wp b t ka kc)(hf:WFr wp W W'):BX W' wp b t ka kc:=⟨hf.box h.bx (by have:=h.ne;omega),h.nt.step fun k hk=>⟨hf.low k hk,hk⟩,h.ne⟩
theorem BX.cells{W:World}{wp b:Nat}{t:Tn}{ka:Option Addr}{kc:Nat}(h:BX W wp b t ka kc):W.cell? ⟨b,0,none⟩=some (.string t.kind)∧W.cell? ⟨b,1,none⟩=some (.string t.word)∧W.cell? ⟨b,2,none⟩=some (.int .i64 t.num)∧W.cell? ⟨b,3,none⟩=some (.slice ka t.kids.length kc):=by
 have hb:=h.bx
 unfold RA at hb
 refine⟨?_,?_,?_,?_⟩<;>simp[World.cell?,hb]
theorem BX.new{w:World}{wp:Nat}{t:Tn}{ka:Option Addr}{kc:Nat}(hn:NT w (·<wp) ka kc t)(hw:wp<w.heap.size):BX (w.alloc (.cells (RA t ka kc) 25)) wp w.heap.size t ka kc:=
 ⟨heap_alloc_new _ _,hn.step fun k hk=>⟨Go.Deep.blk_alloc_lt _ _ _ (by omega),hk⟩,hw⟩
theorem SW.here{w0 W:World}{wp:Nat}{s:WS}(h:SW w0 W wp s):SW W W wp s:=⟨h.wr,WFr.refl _ _,h.tb,h.lo⟩
def AU(t:Tn):Prop:=∀(w:World) (wp:Nat) (s:WS) (ka:Option Addr) (kc:Nat) (l:Int) (lv:Nat),l=lv→SW w w wp s→NT w (·<wp) ka kc t→lv≤xL t.kind→Calls Tryz.prog 98 #[.pointer (some ⟨wp,0,none⟩),.agg (RA t ka kc),.int .i64 l] w (JF wp w (cE t s))
def wO(t:Tn):Prop:=∀(w:World) (wp:Nat) (s:WS) (ka:Option Addr) (kc:Nat) (l:Int) (lv:Nat),l=lv→SW w w wp s→NT w (·<wp) ka kc t→lv≤3→Calls Tryz.prog 98 #[.pointer (some ⟨wp,0,none⟩),.agg (RA t ka kc),.int .i64 l] w (JF wp w (uD t lv s))
def JV(t:Tn):Prop:=∀(w:World) (wp:Nat) (s:WS) (ka:Option Addr) (kc:Nat),SW w w wp s→NT w (·<wp) ka kc t→Calls Tryz.prog 127 #[.pointer (some ⟨wp,0,none⟩),.agg (RA t ka kc)] w (JF wp w (ID t s))
def IV(t:Tn):Prop:=∀(w:World) (wp:Nat) (s:WS) (ka:Option Addr) (kc:Nat),SW w w wp s→NT w (·<wp) ka kc t→Calls Tryz.prog 93 #[.pointer (some ⟨wp,0,none⟩),.agg (RA t ka kc)] w (JF wp w (RG t s))
def vU(t:Tn):Prop:=∀(w:World) (wp:Nat) (s:WS) (ka:Option Addr) (kc:Nat) (l:Int) (lv:Nat),l=lv→SW w w wp s→NT w (·<wp) ka kc t→lv≤AJ t.kind→Calls Tryz.prog 46 #[.pointer (some ⟨wp,0,none⟩),.agg (RA t ka kc),.int .i64 l] w (JF wp w (XB t s))
def pS(t:Tn):Prop:=∀(w:World) (wp:Nat) (s:WS) (ka:Option Addr) (kc:Nat) (l:Int) (lv:Nat),l=lv→SW w w wp s→NT w (·<wp) ka kc t→lv≤4→Calls Tryz.prog 46 #[.pointer (some ⟨wp,0,none⟩),.agg (RA t ka kc),.int .i64 l] w (JF wp w (SC t lv s))
theorem fD{s s':WS}(h:PA s=some s'):s'.d=s.d+1:=by
 unfold PA at h
 split at h
 ·cases h
 ·injection h with h;rw[←h]
theorem JJ{n:Int}(h0:-9223372036854775808≤n)(h1:n≤9223372036854775807):(bJ n).size≤281474976710656:=by
 have b1:=NI n 100 (by omega) h0 h1
 have b2:=OI n 100 (by omega)
 have b3:=NI (n.tmod 100) 10 (by omega) (by omega) (by omega)
 have b4:=OI n 10 (by omega)
 have z1:=iD b1.1 b1.2
 have z2:=iD b3.1 b3.2
 have z3:=iD (n:=n.tmod 10) (by omega) (by omega)
 unfold bJ
 split
 ·omega
 ·simp only[ByteArray.size_append]
  have:(⟨#[46]⟩:ByteArray).size=1:=rfl
  omega
theorem VU(k:ByteArray):xL k≤2:=by
 unfold xL
 split
 ·omega
 ·split<;>omega
theorem UU(k:ByteArray):AJ k≤3:=by
 unfold AJ
 split
 ·omega
 ·split
  ·omega
  ·split<;>omega
end Go.Proofs.YtehbinobohjadaaGreatDoor
namespace Go.Proofs.YtehbinobohjadaaGreatDoor
open Go.RowKit Go.Sort Go.Extern.Stop Go.Stop Go.Extern
set_option linter.unusedSectionVars false
variable [Inhabited TP]
theorem lL(a b c d:Value)(w:World):(Instr.field 25 (.agg #[a,b,c,d]) 1).run Tryz.prog w=.ok b w:=by kernel_rfl
theorem dQ{t:Tn}(hO:TnOk t)(ih:∀(i:Nat) (k:Tn),t.kids[i]?=some k→wO k):JV t:=by
 intro w wp s ka kc hS hN
 cases h0:(t.kind.toList==[110,117,109,98,101,114])
 rotate_left
 ·obtain⟨z0,z1,n0,n1,hOk⟩:=hO.is
  have hwp:=hS.wr.in
  have HX0:=aA (BX.new hN hwp)
  have HS0:=aA (hS.alloc (.cells (RA t ka kc) 25))
  obtain⟨W0,hW0⟩:∃W0,W0=w.alloc (.cells (RA t ka kc) 25):=⟨_,rfl⟩
  rw[←hW0] at HX0 HS0
  have HW:Hid (W0=w.alloc (.cells #[.string t.kind,.string t.word,.int .i64 t.num,.slice ka t.kids.length kc] 25)):=hW0
  obtain⟨R,hR⟩:∃R,R=ID t s:=⟨_,rfl⟩
  rw[←hR]
  rw[ID,if_pos (fA h0 rfl)] at hR
  have HR:=aA hR
  obtain⟨c0,c1,c2,c3⟩:=HX0.out.cells
  clear hR hW0 hN
  unfold RA
  go_enter Tryz.func127,Tryz.ntmps127
  go_upto_region 1 with fail
  rw[←HW.out]
  go_wp2_with (first
   |(go_at_call 45;refine(XA HS1.out.wr (JJ n0 n1)).mono ?_;rintro e W2 ⟨hf,hr⟩;rcases hq0:MA s (bJ t.num) with _|s1;(·rw[hq0] at hr;(obtain⟨p,rfl⟩:=hr);(obtain rfl:R=none:=(by rw[HR.out,hq0];try rfl));exact(show _∧_ from⟨rfl,HS1.out.fr.trans hf,⟨_,rfl⟩⟩));rw[hq0] at hr;(obtain⟨rfl,hr⟩:=hr);(have HS2:=aA (HS1.out.step hf hr));(have HX2:=aA (HX1.out.step hf));(obtain⟨c0,c1,c2,c3⟩:=HX2.out.cells);rw[hq0] at HR;(have hd1:=aB hq0);clear hf hr)
   |(go_at_call 126;refine(KH HS0.out.tb n0 n1).mono ?_;rintro e W1 ⟨rfl,hb⟩;(have HS1:=aA (HS0.out.grow hb));(have HX1:=aA (HX0.out.step (WFr.of hb (Nat.le_of_lt HS0.out.wr.in))));(obtain⟨c0,c1,c2,c3⟩:=HX1.out.cells);clear hb))
  go_end0
  (obtain rfl:R=some s1:=HR.out)
  exact⟨HS2.out.fr,rfl,HS2.out.wr⟩
 cases h1:(t.kind.toList==[110,97,109,101])
 rotate_left
 ·obtain⟨z0,z1,n0,n1,hOk⟩:=hO.is
  have hwp:=hS.wr.in
  have HX0:=aA (BX.new hN hwp)
  have HS0:=aA (hS.alloc (.cells (RA t ka kc) 25))
  obtain⟨W0,hW0⟩:∃W0,W0=w.alloc (.cells (RA t ka kc) 25):=⟨_,rfl⟩
  rw[←hW0] at HX0 HS0
  have HW:Hid (W0=w.alloc (.cells #[.string t.kind,.string t.word,.int .i64 t.num,.slice ka t.kids.length kc] 25)):=hW0
  obtain⟨R,hR⟩:∃R,R=ID t s:=⟨_,rfl⟩
  rw[←hR]
  rw[ID,if_neg (by rw[fA h0 (x:=JB) rfl];simp),if_pos (fA h1 rfl)] at hR
  have HR:=aA hR
  obtain⟨c0,c1,c2,c3⟩:=HX0.out.cells
  clear hR hW0 hN
  unfold RA
  go_enter Tryz.func127,Tryz.ntmps127
  go_upto_region 1 with fail
  rw[←HW.out]
  go_wp2_with (first
   |(go_at_call 45;refine(XA HS0.out.wr z1).mono ?_;rintro e W1 ⟨hf,hr⟩;rcases hq0:MA s t.word with _|s1;(·rw[hq0] at hr;(obtain⟨p,rfl⟩:=hr);(obtain rfl:R=none:=(by rw[HR.out,hq0];try rfl));exact(show _∧_ from⟨rfl,HS0.out.fr.trans hf,⟨_,rfl⟩⟩));rw[hq0] at hr;(obtain⟨rfl,hr⟩:=hr);(have HS1:=aA (HS0.out.step hf hr));(have HX1:=aA (HX0.out.step hf));(obtain⟨c0,c1,c2,c3⟩:=HX1.out.cells);rw[hq0] at HR;(have hd1:=aB hq0);clear hf hr))
  go_end0
  (obtain rfl:R=some s1:=HR.out)
  exact⟨HS1.out.fr,rfl,HS1.out.wr⟩
 cases h2:(t.kind.toList==[99,111,117,110,116])
 rotate_left
 ·obtain⟨z0,z1,n0,n1,hOk⟩:=hO.is
  have hwp:=hS.wr.in
  have HX0:=aA (BX.new hN hwp)
  have HS0:=aA (hS.alloc (.cells (RA t ka kc) 25))
  obtain⟨W0,hW0⟩:∃W0,W0=w.alloc (.cells (RA t ka kc) 25):=⟨_,rfl⟩
  rw[←hW0] at HX0 HS0
  have HW:Hid (W0=w.alloc (.cells #[.string t.kind,.string t.word,.int .i64 t.num,.slice ka t.kids.length kc] 25)):=hW0
  obtain⟨R,hR⟩:∃R,R=ID t s:=⟨_,rfl⟩
  rw[←hR]
  rw[ID,if_neg (by rw[fA h0 (x:=JB) rfl];simp),if_neg (by rw[fA h1 (x:=qB) rfl];simp),if_pos (fA h2 rfl)] at hR
  have HR:=aA hR
  obtain⟨c0,c1,c2,c3⟩:=HX0.out.cells
  clear hR hW0 hN
  unfold RA
  go_enter Tryz.func127,Tryz.ntmps127
  go_upto_region 1 with fail
  rw[←HW.out]
  go_wp2_with (first
   |(go_at_call 45;refine(bD HS0.out.wr (x:=wCount) (by decide) z1).mono ?_;rintro e W1 ⟨hf,hr⟩;rcases hq0:CA s [wCount,t.word] with _|s1;(·rw[hq0] at hr;(obtain⟨p,rfl⟩:=hr);(obtain rfl:R=none:=(by rw[HR.out,hq0];try rfl));exact(show _∧_ from⟨rfl,HS0.out.fr.trans hf,⟨_,rfl⟩⟩));rw[hq0] at hr;(obtain⟨rfl,hr⟩:=hr);(have HS1:=aA (HS0.out.step hf hr));(have HX1:=aA (HX0.out.step hf));(obtain⟨c0,c1,c2,c3⟩:=HX1.out.cells);rw[hq0] at HR;(have hd1:=JC hq0);clear hf hr))
  go_end0
  (obtain rfl:R=some s1:=HR.out)
  exact⟨HS1.out.fr,rfl,HS1.out.wr⟩
 cases h3:(t.kind.toList==[116,111,116,97,108])
 rotate_left
 ·match e:t.kids with
  | []=>
    have HKn:Hid (t.kids[0]?=none):=by show _=_;rw[e];rfl
    obtain⟨z0,z1,n0,n1,hOk⟩:=hO.is
    have hwp:=hS.wr.in
    have HX0:=aA (BX.new hN hwp)
    have HS0:=aA (hS.alloc (.cells (RA t ka kc) 25))
    obtain⟨W0,hW0⟩:∃W0,W0=w.alloc (.cells (RA t ka kc) 25):=⟨_,rfl⟩
    rw[←hW0] at HX0 HS0
    have HW:Hid (W0=w.alloc (.cells #[.string t.kind,.string t.word,.int .i64 t.num,.slice ka t.kids.length kc] 25)):=hW0
    obtain⟨R,hR⟩:∃R,R=ID t s:=⟨_,rfl⟩
    rw[←hR]
    rw[ID,if_neg (by rw[fA h0 (x:=JB) rfl];simp),if_neg (by rw[fA h1 (x:=qB) rfl];simp),if_neg (by rw[fA h2 (x:=wCount) rfl];simp),if_pos (fA h3 rfl),e] at hR
    have HR:=aA hR
    obtain⟨c0,c1,c2,c3⟩:=HX0.out.cells
    have HRn:Hid (R=none):=by show _=_;rw[hR];try rfl
    clear hR hW0 hN e
    have HS1:=aA (HS0.out.grow ((Below.refl _ W0).drew))
    have HX1:=aA (HX0.out.step (WFr.of ((Below.refl _ W0).drew) (Nat.le_of_lt HS0.out.wr.in)))
    have HC:Hid (Calls Tryz.prog 92 #[.agg (RA t ka kc),.int .i64 (0:Nat)] W0.drew fun e w'=>(CP e∨(e=.returned (.agg (RA t ka kc))∧False))∧Below W0.drew.heap.size W0.drew w'):=(NB (i:=0) (t:=t) (ka:=ka) (kc:=kc) HS1.out.wr HKn.out).mono fun e w' h=>⟨.inl h.1,h.2⟩
    obtain rfl:R=none:=HRn.out
    have hfd:∀V,(Instr.field 25 (.agg (RA t ka kc)) 1).run Tryz.prog V=.ok (.string t.word) V:=fun V=>lL _ _ _ _ V
    unfold RA
    go_enter Tryz.func127,Tryz.ntmps127
    go_upto_region 1 with fail
    rw[←HW.out]
    go_upto_region 10 with fail
    go_region_with (first|(go_at_call 45;refine(sR HS2.out.wr (x:=wTotal) (by decide) z1 (z:=wOf) (by decide) z1).mono ?_;rintro e W3 ⟨hf,hr⟩;revert hr;(split);(·rintro ⟨p,rfl⟩;exact(show _∧_ from⟨rfl,HS2.out.fr.trans hf,⟨_,rfl⟩⟩));rintro ⟨rfl,hr⟩;clear hf hr)|(go_at_call 92;refine HC.out.mono ?_;rintro e W2 ⟨⟨p,rfl⟩|⟨rfl,hF⟩,hb⟩;(·exact(show _∧_ from⟨rfl,HS1.out.fr.trans (WFr.of hb (Nat.le_of_lt HS1.out.wr.in)),⟨_,rfl⟩⟩));(have HF:=aA hF);(have HS2:=aA (HS1.out.grow hb));(have HX2:=aA (HX1.out.step (WFr.of hb (Nat.le_of_lt HS1.out.wr.in))));(obtain⟨c0,c1,c2,c3⟩:=HX2.out.cells);clear hb hF))
    all_goals exact HF.out.elim
  |a::r=>
   have HKa:Hid (t.kids[0]?=some a):=by show _=_;rw[e];rfl
   have HIa:=aA (ih 0 a HKa.out)
   obtain⟨z0,z1,n0,n1,hOk⟩:=hO.is
   have hwp:=hS.wr.in
   have HX0:=aA (BX.new hN hwp)
   have HS0:=aA (hS.alloc (.cells (RA t ka kc) 25))
   obtain⟨W0,hW0⟩:∃W0,W0=w.alloc (.cells (RA t ka kc) 25):=⟨_,rfl⟩
   rw[←hW0] at HX0 HS0
   have HW:Hid (W0=w.alloc (.cells #[.string t.kind,.string t.word,.int .i64 t.num,.slice ka t.kids.length kc] 25)):=hW0
   obtain⟨R,hR⟩:∃R,R=ID t s:=⟨_,rfl⟩
   rw[←hR]
   rw[ID,if_neg (by rw[fA h0 (x:=JB) rfl];simp),if_neg (by rw[fA h1 (x:=qB) rfl];simp),if_neg (by rw[fA h2 (x:=wCount) rfl];simp),if_pos (fA h3 rfl),e] at hR
   have HR:=aA hR
   obtain⟨c0,c1,c2,c3⟩:=HX0.out.cells
   clear hR hW0 hN e
   have HS1:=aA (HS0.out.grow ((Below.refl _ W0).drew))
   have HX1:=aA (HX0.out.step (WFr.of ((Below.refl _ W0).drew) (Nat.le_of_lt HS0.out.wr.in)))
   obtain⟨ka0,kc0,hnt,hcall⟩:=ZA (i:=0) HX1.out.nt HKa.out
   have HC:=aA hcall
   have hfd:∀V,(Instr.field 25 (.agg (RA a ka0 kc0)) 1).run Tryz.prog V=.ok (.string a.word) V:=fun V=>lL _ _ _ _ V
   clear hnt hcall
   unfold RA
   go_enter Tryz.func127,Tryz.ntmps127
   go_upto_region 1 with fail
   rw[←HW.out]
   go_upto_region 10 with fail
   go_region_with (first|(go_at_call 45;refine(sR HS2.out.wr (x:=wTotal) (by decide) z1 (z:=wOf) (by decide) (hOk 0 a HKa.out).is.2.1).mono ?_;rintro e W3 ⟨hf,hr⟩;rcases hq0:CA s [wTotal,t.word,wOf,a.word] with _|s1;(·rw[hq0] at hr;(obtain⟨p,rfl⟩:=hr);(obtain rfl:R=none:=(by rw[HR.out,hq0];try rfl));exact(show _∧_ from⟨rfl,HS2.out.fr.trans hf,⟨_,rfl⟩⟩));rw[hq0] at hr;(obtain⟨rfl,hr⟩:=hr);(have HS3:=aA (HS2.out.step hf hr));(have HX3:=aA (HX2.out.step hf));(obtain⟨c0,c1,c2,c3⟩:=HX3.out.cells);rw[hq0] at HR;(have hd1:=JC hq0);clear hf hr)|(go_at_call 92;refine HC.out.mono ?_;rintro e W2 ⟨rfl,hb⟩;(have HS2:=aA (HS1.out.grow hb));(have HX2:=aA (HX1.out.step (WFr.of hb (Nat.le_of_lt HS1.out.wr.in))));(obtain⟨c0,c1,c2,c3⟩:=HX2.out.cells);clear hb))
   all_goals go_wp2
   all_goals go_end0
   all_goals (obtain rfl:R=some s1:=HR.out)
   all_goals exact⟨HS3.out.fr,rfl,HS3.out.wr⟩
 cases h4:(t.kind.toList==[109,97,120])
 rotate_left
 ·match e:t.kids with
  | []=>
    have HKn:Hid (t.kids[0]?=none):=by show _=_;rw[e];rfl
    obtain⟨z0,z1,n0,n1,hOk⟩:=hO.is
    have hwp:=hS.wr.in
    have HX0:=aA (BX.new hN hwp)
    have HS0:=aA (hS.alloc (.cells (RA t ka kc) 25))
    obtain⟨W0,hW0⟩:∃W0,W0=w.alloc (.cells (RA t ka kc) 25):=⟨_,rfl⟩
    rw[←hW0] at HX0 HS0
    have HW:Hid (W0=w.alloc (.cells #[.string t.kind,.string t.word,.int .i64 t.num,.slice ka t.kids.length kc] 25)):=hW0
    obtain⟨R,hR⟩:∃R,R=ID t s:=⟨_,rfl⟩
    rw[←hR]
    rw[ID,if_neg (by rw[fA h0 (x:=JB) rfl];simp),if_neg (by rw[fA h1 (x:=qB) rfl];simp),if_neg (by rw[fA h2 (x:=wCount) rfl];simp),if_neg (by rw[fA h3 (x:=wTotal) rfl];simp),if_pos (.inl (fA h4 rfl)),e] at hR
    have HR:=aA hR
    obtain⟨c0,c1,c2,c3⟩:=HX0.out.cells
    have HRn:Hid (R=none):=by show _=_;rw[hR];try rfl
    clear hR hW0 hN e
    unfold RA
    (obtain rfl:R=none:=HRn.out)
    go_enter Tryz.func127,Tryz.ntmps127
    go_upto_region 1 with fail
    rw[←HW.out]
    go_wp2_with (first
    |(go_at_call 92;refine(NB (i:=0) HS1.out.wr HKn.out).mono ?_;rintro e W2 ⟨⟨p,rfl⟩,hb⟩;exact(show _∧_ from⟨rfl,HS1.out.fr.trans (WFr.of hb (Nat.le_of_lt HS1.out.wr.in)),⟨_,rfl⟩⟩))
    |(go_at_call 45;refine(bD HS0.out.wr z0 (y:=sg 40) (by decide)).mono ?_;rintro e W1 ⟨hf,hr⟩;revert hr;(split);(·rintro ⟨p,rfl⟩;exact(show _∧_ from⟨rfl,HS0.out.fr.trans hf,⟨_,rfl⟩⟩));rintro ⟨rfl,hr⟩;(have HS1:=aA (HS0.out.step hf hr));(have HX1:=aA (HX0.out.step hf));(obtain⟨c0,c1,c2,c3⟩:=HX1.out.cells);clear hf hr))
  | [a]=>
    have HKa:Hid (t.kids[0]?=some a):=by show _=_;rw[e];rfl
    have HIa:=aA (ih 0 a HKa.out)
    have HKn:Hid (t.kids[1]?=none):=by show _=_;rw[e];rfl
    obtain⟨z0,z1,n0,n1,hOk⟩:=hO.is
    have hwp:=hS.wr.in
    have HX0:=aA (BX.new hN hwp)
    have HS0:=aA (hS.alloc (.cells (RA t ka kc) 25))
    obtain⟨W0,hW0⟩:∃W0,W0=w.alloc (.cells (RA t ka kc) 25):=⟨_,rfl⟩
    rw[←hW0] at HX0 HS0
    have HW:Hid (W0=w.alloc (.cells #[.string t.kind,.string t.word,.int .i64 t.num,.slice ka t.kids.length kc] 25)):=hW0
    obtain⟨R,hR⟩:∃R,R=ID t s:=⟨_,rfl⟩
    rw[←hR]
    rw[ID,if_neg (by rw[fA h0 (x:=JB) rfl];simp),if_neg (by rw[fA h1 (x:=qB) rfl];simp),if_neg (by rw[fA h2 (x:=wCount) rfl];simp),if_neg (by rw[fA h3 (x:=wTotal) rfl];simp),if_pos (.inl (fA h4 rfl)),e] at hR
    have HR:=aA hR
    obtain⟨c0,c1,c2,c3⟩:=HX0.out.cells
    have HRn:Hid (R=none):=by show _=_;rw[hR];try rfl
    clear hR hW0 hN e
    unfold RA
    (obtain rfl:R=none:=HRn.out)
    go_enter Tryz.func127,Tryz.ntmps127
    go_upto_region 1 with fail
    rw[←HW.out]
    go_wp2_with (first
    |(go_at_call 92;refine(NB (i:=1) HS4.out.wr HKn.out).mono ?_;rintro e W5 ⟨⟨p,rfl⟩,hb⟩;exact(show _∧_ from⟨rfl,HS4.out.fr.trans (WFr.of hb (Nat.le_of_lt HS4.out.wr.in)),⟨_,rfl⟩⟩))
    |(go_at_call 45;refine(XA HS3.out.wr (x:=sg 44) (by decide)).mono ?_;rintro e W4 ⟨hf,hr⟩;revert hr;(split);(·rintro ⟨p,rfl⟩;exact(show _∧_ from⟨rfl,HS3.out.fr.trans hf,⟨_,rfl⟩⟩));rintro ⟨rfl,hr⟩;(have HS4:=aA (HS3.out.step hf hr));(have HX4:=aA (HX3.out.step hf));(obtain⟨c0,c1,c2,c3⟩:=HX4.out.cells);clear hf hr)
    |(go_at_call 98;refine(HIa.out _ _ _ _ _ _ 0 (by first|rfl|simp|omega) HS2.out.here HNa.out (by first|omega|decide)).mono ?_;rintro e W3 ⟨hf,hr⟩;revert hr;(split);(·rintro ⟨p,rfl⟩;exact(show _∧_ from⟨rfl,HS2.out.fr.trans hf,⟨_,rfl⟩⟩));rintro ⟨rfl,hr⟩;(have HS3:=aA (HS2.out.step hf hr));(have HX3:=aA (HX2.out.step hf));(obtain⟨c0,c1,c2,c3⟩:=HX3.out.cells);clear hf hr)
    |(go_at_call 92;revert HX1;intro HX1;(obtain⟨ka0,kc0,hnt,hcall⟩:=ZA (i:=0) HX1.out.nt HKa.out);refine hcall.mono ?_;rintro e W2 ⟨rfl,hb⟩;(have HS2:=aA (HS1.out.grow hb));(have HX2:=aA (HX1.out.step (WFr.of hb (Nat.le_of_lt HS1.out.wr.in))));(have HNa:=aA (hnt.step (P':=(·<wp)) (fun k hk=>⟨hb.block k (Nat.lt_trans hk HS1.out.wr.in),hk⟩)));(obtain⟨c0,c1,c2,c3⟩:=HX2.out.cells);clear hb hnt hcall)
    |(go_at_call 45;refine(bD HS0.out.wr z0 (y:=sg 40) (by decide)).mono ?_;rintro e W1 ⟨hf,hr⟩;revert hr;(split);(·rintro ⟨p,rfl⟩;exact(show _∧_ from⟨rfl,HS0.out.fr.trans hf,⟨_,rfl⟩⟩));rintro ⟨rfl,hr⟩;(have HS1:=aA (HS0.out.step hf hr));(have HX1:=aA (HX0.out.step hf));(obtain⟨c0,c1,c2,c3⟩:=HX1.out.cells);clear hf hr))
  |a::b::r=>
   have HKa:Hid (t.kids[0]?=some a):=by show _=_;rw[e];rfl
   have HIa:=aA (ih 0 a HKa.out)
   have HKb:Hid (t.kids[1]?=some b):=by show _=_;rw[e];rfl
   have HIb:=aA (ih 1 b HKb.out)
   obtain⟨z0,z1,n0,n1,hOk⟩:=hO.is
   have hwp:=hS.wr.in
   have HX0:=aA (BX.new hN hwp)
   have HS0:=aA (hS.alloc (.cells (RA t ka kc) 25))
   obtain⟨W0,hW0⟩:∃W0,W0=w.alloc (.cells (RA t ka kc) 25):=⟨_,rfl⟩
   rw[←hW0] at HX0 HS0
   have HW:Hid (W0=w.alloc (.cells #[.string t.kind,.string t.word,.int .i64 t.num,.slice ka t.kids.length kc] 25)):=hW0
   obtain⟨R,hR⟩:∃R,R=ID t s:=⟨_,rfl⟩
   rw[←hR]
   rw[ID,if_neg (by rw[fA h0 (x:=JB) rfl];simp),if_neg (by rw[fA h1 (x:=qB) rfl];simp),if_neg (by rw[fA h2 (x:=wCount) rfl];simp),if_neg (by rw[fA h3 (x:=wTotal) rfl];simp),if_pos (.inl (fA h4 rfl)),e] at hR
   have HR:=aA hR
   obtain⟨c0,c1,c2,c3⟩:=HX0.out.cells
   clear hR hW0 hN e
   unfold RA
   go_enter Tryz.func127,Tryz.ntmps127
   go_upto_region 1 with fail
   rw[←HW.out]
   go_wp2_with (first
   |(go_at_call 45;refine(XA HS6.out.wr (x:=sg 41) (by decide)).mono ?_;rintro e W7 ⟨hf,hr⟩;rcases hq4:MA s4 (sg 41) with _|s5;(·rw[hq4] at hr;(obtain⟨p,rfl⟩:=hr);(obtain rfl:R=none:=(by rw[HR.out,hq4];try rfl));exact(show _∧_ from⟨rfl,HS6.out.fr.trans hf,⟨_,rfl⟩⟩));rw[hq4] at hr;(obtain⟨rfl,hr⟩:=hr);(have HS7:=aA (HS6.out.step hf hr));(have HX7:=aA (HX6.out.step hf));(obtain⟨c0,c1,c2,c3⟩:=HX7.out.cells);rw[hq4] at HR;(have hd5:=aB hq4);clear hf hr)
   |(go_at_call 98;refine(HIb.out _ _ _ _ _ _ 0 (by first|rfl|simp|omega) HS5.out.here HNb.out (by first|omega|decide)).mono ?_;rintro e W6 ⟨hf,hr⟩;rcases hq3:uD b 0 s3 with _|s4;(·rw[hq3] at hr;(obtain⟨p,rfl⟩:=hr);(obtain rfl:R=none:=(by rw[HR.out,hq3];try rfl));exact(show _∧_ from⟨rfl,HS5.out.fr.trans hf,⟨_,rfl⟩⟩));rw[hq3] at hr;(obtain⟨rfl,hr⟩:=hr);(have HS6:=aA (HS5.out.step hf hr));(have HX6:=aA (HX5.out.step hf));(obtain⟨c0,c1,c2,c3⟩:=HX6.out.cells);rw[hq3,Option.bind_some] at HR;(have hd4:=oD hq3);clear hf hr)
   |(go_at_call 92;revert HX4;intro HX4;(obtain⟨ka1,kc1,hnt,hcall⟩:=ZA (i:=1) HX4.out.nt HKb.out);refine hcall.mono ?_;rintro e W5 ⟨rfl,hb⟩;(have HS5:=aA (HS4.out.grow hb));(have HX5:=aA (HX4.out.step (WFr.of hb (Nat.le_of_lt HS4.out.wr.in))));(have HNb:=aA (hnt.step (P':=(·<wp)) (fun k hk=>⟨hb.block k (Nat.lt_trans hk HS4.out.wr.in),hk⟩)));(obtain⟨c0,c1,c2,c3⟩:=HX5.out.cells);clear hb hnt hcall)
   |(go_at_call 45;refine(XA HS3.out.wr (x:=sg 44) (by decide)).mono ?_;rintro e W4 ⟨hf,hr⟩;rcases hq2:MA s2 (sg 44) with _|s3;(·rw[hq2] at hr;(obtain⟨p,rfl⟩:=hr);(obtain rfl:R=none:=(by rw[HR.out,hq2];try rfl));exact(show _∧_ from⟨rfl,HS3.out.fr.trans hf,⟨_,rfl⟩⟩));rw[hq2] at hr;(obtain⟨rfl,hr⟩:=hr);(have HS4:=aA (HS3.out.step hf hr));(have HX4:=aA (HX3.out.step hf));(obtain⟨c0,c1,c2,c3⟩:=HX4.out.cells);rw[hq2,Option.bind_some] at HR;(have hd3:=aB hq2);clear hf hr)
   |(go_at_call 98;refine(HIa.out _ _ _ _ _ _ 0 (by first|rfl|simp|omega) HS2.out.here HNa.out (by first|omega|decide)).mono ?_;rintro e W3 ⟨hf,hr⟩;rcases hq1:uD a 0 s1 with _|s2;(·rw[hq1] at hr;(obtain⟨p,rfl⟩:=hr);(obtain rfl:R=none:=(by rw[HR.out,hq1];try rfl));exact(show _∧_ from⟨rfl,HS2.out.fr.trans hf,⟨_,rfl⟩⟩));rw[hq1] at hr;(obtain⟨rfl,hr⟩:=hr);(have HS3:=aA (HS2.out.step hf hr));(have HX3:=aA (HX2.out.step hf));(obtain⟨c0,c1,c2,c3⟩:=HX3.out.cells);rw[hq1,Option.bind_some] at HR;(have hd2:=oD hq1);clear hf hr)
   |(go_at_call 92;revert HX1;intro HX1;(obtain⟨ka0,kc0,hnt,hcall⟩:=ZA (i:=0) HX1.out.nt HKa.out);refine hcall.mono ?_;rintro e W2 ⟨rfl,hb⟩;(have HS2:=aA (HS1.out.grow hb));(have HX2:=aA (HX1.out.step (WFr.of hb (Nat.le_of_lt HS1.out.wr.in))));(have HNa:=aA (hnt.step (P':=(·<wp)) (fun k hk=>⟨hb.block k (Nat.lt_trans hk HS1.out.wr.in),hk⟩)));(obtain⟨c0,c1,c2,c3⟩:=HX2.out.cells);clear hb hnt hcall)
   |(go_at_call 45;refine(bD HS0.out.wr z0 (y:=sg 40) (by decide)).mono ?_;rintro e W1 ⟨hf,hr⟩;rcases hq0:CA s [t.kind,sg 40] with _|s1;(·rw[hq0] at hr;(obtain⟨p,rfl⟩:=hr);(obtain rfl:R=none:=(by rw[HR.out,hq0];try rfl));exact(show _∧_ from⟨rfl,HS0.out.fr.trans hf,⟨_,rfl⟩⟩));rw[hq0] at hr;(obtain⟨rfl,hr⟩:=hr);(have HS1:=aA (HS0.out.step hf hr));(have HX1:=aA (HX0.out.step hf));(obtain⟨c0,c1,c2,c3⟩:=HX1.out.cells);rw[hq0,Option.bind_some] at HR;(have hd1:=JC hq0);clear hf hr))
   go_end0
   (obtain rfl:R=some s5:=HR.out)
   exact⟨HS7.out.fr,rfl,HS7.out.wr⟩
 cases h5:(t.kind.toList==[109,105,110])
 rotate_left
 ·match e:t.kids with
  | []=>
    have HKn:Hid (t.kids[0]?=none):=by show _=_;rw[e];rfl
    obtain⟨z0,z1,n0,n1,hOk⟩:=hO.is
    have hwp:=hS.wr.in
    have HX0:=aA (BX.new hN hwp)
    have HS0:=aA (hS.alloc (.cells (RA t ka kc) 25))
    obtain⟨W0,hW0⟩:∃W0,W0=w.alloc (.cells (RA t ka kc) 25):=⟨_,rfl⟩
    rw[←hW0] at HX0 HS0
    have HW:Hid (W0=w.alloc (.cells #[.string t.kind,.string t.word,.int .i64 t.num,.slice ka t.kids.length kc] 25)):=hW0
    obtain⟨R,hR⟩:∃R,R=ID t s:=⟨_,rfl⟩
    rw[←hR]
    rw[ID,if_neg (by rw[fA h0 (x:=JB) rfl];simp),if_neg (by rw[fA h1 (x:=qB) rfl];simp),if_neg (by rw[fA h2 (x:=wCount) rfl];simp),if_neg (by rw[fA h3 (x:=wTotal) rfl];simp),if_pos (.inr (fA h5 rfl)),e] at hR
    have HR:=aA hR
    obtain⟨c0,c1,c2,c3⟩:=HX0.out.cells
    have HRn:Hid (R=none):=by show _=_;rw[hR];try rfl
    clear hR hW0 hN e
    unfold RA
    (obtain rfl:R=none:=HRn.out)
    go_enter Tryz.func127,Tryz.ntmps127
    go_upto_region 1 with fail
    rw[←HW.out]
    go_wp2_with (first
    |(go_at_call 92;refine(NB (i:=0) HS1.out.wr HKn.out).mono ?_;rintro e W2 ⟨⟨p,rfl⟩,hb⟩;exact(show _∧_ from⟨rfl,HS1.out.fr.trans (WFr.of hb (Nat.le_of_lt HS1.out.wr.in)),⟨_,rfl⟩⟩))
    |(go_at_call 45;refine(bD HS0.out.wr z0 (y:=sg 40) (by decide)).mono ?_;rintro e W1 ⟨hf,hr⟩;revert hr;(split);(·rintro ⟨p,rfl⟩;exact(show _∧_ from⟨rfl,HS0.out.fr.trans hf,⟨_,rfl⟩⟩));rintro ⟨rfl,hr⟩;(have HS1:=aA (HS0.out.step hf hr));(have HX1:=aA (HX0.out.step hf));(obtain⟨c0,c1,c2,c3⟩:=HX1.out.cells);clear hf hr))
  | [a]=>
    have HKa:Hid (t.kids[0]?=some a):=by show _=_;rw[e];rfl
    have HIa:=aA (ih 0 a HKa.out)
    have HKn:Hid (t.kids[1]?=none):=by show _=_;rw[e];rfl
    obtain⟨z0,z1,n0,n1,hOk⟩:=hO.is
    have hwp:=hS.wr.in
    have HX0:=aA (BX.new hN hwp)
    have HS0:=aA (hS.alloc (.cells (RA t ka kc) 25))
    obtain⟨W0,hW0⟩:∃W0,W0=w.alloc (.cells (RA t ka kc) 25):=⟨_,rfl⟩
    rw[←hW0] at HX0 HS0
    have HW:Hid (W0=w.alloc (.cells #[.string t.kind,.string t.word,.int .i64 t.num,.slice ka t.kids.length kc] 25)):=hW0
    obtain⟨R,hR⟩:∃R,R=ID t s:=⟨_,rfl⟩
    rw[←hR]
    rw[ID,if_neg (by rw[fA h0 (x:=JB) rfl];simp),if_neg (by rw[fA h1 (x:=qB) rfl];simp),if_neg (by rw[fA h2 (x:=wCount) rfl];simp),if_neg (by rw[fA h3 (x:=wTotal) rfl];simp),if_pos (.inr (fA h5 rfl)),e] at hR
    have HR:=aA hR
    obtain⟨c0,c1,c2,c3⟩:=HX0.out.cells
    have HRn:Hid (R=none):=by show _=_;rw[hR];try rfl
    clear hR hW0 hN e
    unfold RA
    (obtain rfl:R=none:=HRn.out)
    go_enter Tryz.func127,Tryz.ntmps127
    go_upto_region 1 with fail
    rw[←HW.out]
    go_wp2_with (first
    |(go_at_call 92;refine(NB (i:=1) HS4.out.wr HKn.out).mono ?_;rintro e W5 ⟨⟨p,rfl⟩,hb⟩;exact(show _∧_ from⟨rfl,HS4.out.fr.trans (WFr.of hb (Nat.le_of_lt HS4.out.wr.in)),⟨_,rfl⟩⟩))
    |(go_at_call 45;refine(XA HS3.out.wr (x:=sg 44) (by decide)).mono ?_;rintro e W4 ⟨hf,hr⟩;revert hr;(split);(·rintro ⟨p,rfl⟩;exact(show _∧_ from⟨rfl,HS3.out.fr.trans hf,⟨_,rfl⟩⟩));rintro ⟨rfl,hr⟩;(have HS4:=aA (HS3.out.step hf hr));(have HX4:=aA (HX3.out.step hf));(obtain⟨c0,c1,c2,c3⟩:=HX4.out.cells);clear hf hr)
    |(go_at_call 98;refine(HIa.out _ _ _ _ _ _ 0 (by first|rfl|simp|omega) HS2.out.here HNa.out (by first|omega|decide)).mono ?_;rintro e W3 ⟨hf,hr⟩;revert hr;(split);(·rintro ⟨p,rfl⟩;exact(show _∧_ from⟨rfl,HS2.out.fr.trans hf,⟨_,rfl⟩⟩));rintro ⟨rfl,hr⟩;(have HS3:=aA (HS2.out.step hf hr));(have HX3:=aA (HX2.out.step hf));(obtain⟨c0,c1,c2,c3⟩:=HX3.out.cells);clear hf hr)
    |(go_at_call 92;revert HX1;intro HX1;(obtain⟨ka0,kc0,hnt,hcall⟩:=ZA (i:=0) HX1.out.nt HKa.out);refine hcall.mono ?_;rintro e W2 ⟨rfl,hb⟩;(have HS2:=aA (HS1.out.grow hb));(have HX2:=aA (HX1.out.step (WFr.of hb (Nat.le_of_lt HS1.out.wr.in))));(have HNa:=aA (hnt.step (P':=(·<wp)) (fun k hk=>⟨hb.block k (Nat.lt_trans hk HS1.out.wr.in),hk⟩)));(obtain⟨c0,c1,c2,c3⟩:=HX2.out.cells);clear hb hnt hcall)
    |(go_at_call 45;refine(bD HS0.out.wr z0 (y:=sg 40) (by decide)).mono ?_;rintro e W1 ⟨hf,hr⟩;revert hr;(split);(·rintro ⟨p,rfl⟩;exact(show _∧_ from⟨rfl,HS0.out.fr.trans hf,⟨_,rfl⟩⟩));rintro ⟨rfl,hr⟩;(have HS1:=aA (HS0.out.step hf hr));(have HX1:=aA (HX0.out.step hf));(obtain⟨c0,c1,c2,c3⟩:=HX1.out.cells);clear hf hr))
  |a::b::r=>
   have HKa:Hid (t.kids[0]?=some a):=by show _=_;rw[e];rfl
   have HIa:=aA (ih 0 a HKa.out)
   have HKb:Hid (t.kids[1]?=some b):=by show _=_;rw[e];rfl
   have HIb:=aA (ih 1 b HKb.out)
   obtain⟨z0,z1,n0,n1,hOk⟩:=hO.is
   have hwp:=hS.wr.in
   have HX0:=aA (BX.new hN hwp)
   have HS0:=aA (hS.alloc (.cells (RA t ka kc) 25))
   obtain⟨W0,hW0⟩:∃W0,W0=w.alloc (.cells (RA t ka kc) 25):=⟨_,rfl⟩
   rw[←hW0] at HX0 HS0
   have HW:Hid (W0=w.alloc (.cells #[.string t.kind,.string t.word,.int .i64 t.num,.slice ka t.kids.length kc] 25)):=hW0
   obtain⟨R,hR⟩:∃R,R=ID t s:=⟨_,rfl⟩
   rw[←hR]
   rw[ID,if_neg (by rw[fA h0 (x:=JB) rfl];simp),if_neg (by rw[fA h1 (x:=qB) rfl];simp),if_neg (by rw[fA h2 (x:=wCount) rfl];simp),if_neg (by rw[fA h3 (x:=wTotal) rfl];simp),if_pos (.inr (fA h5 rfl)),e] at hR
   have HR:=aA hR
   obtain⟨c0,c1,c2,c3⟩:=HX0.out.cells
   clear hR hW0 hN e
   unfold RA
   go_enter Tryz.func127,Tryz.ntmps127
   go_upto_region 1 with fail
   rw[←HW.out]
   go_wp2_with (first
   |(go_at_call 45;refine(XA HS6.out.wr (x:=sg 41) (by decide)).mono ?_;rintro e W7 ⟨hf,hr⟩;rcases hq4:MA s4 (sg 41) with _|s5;(·rw[hq4] at hr;(obtain⟨p,rfl⟩:=hr);(obtain rfl:R=none:=(by rw[HR.out,hq4];try rfl));exact(show _∧_ from⟨rfl,HS6.out.fr.trans hf,⟨_,rfl⟩⟩));rw[hq4] at hr;(obtain⟨rfl,hr⟩:=hr);(have HS7:=aA (HS6.out.step hf hr));(have HX7:=aA (HX6.out.step hf));(obtain⟨c0,c1,c2,c3⟩:=HX7.out.cells);rw[hq4] at HR;(have hd5:=aB hq4);clear hf hr)
   |(go_at_call 98;refine(HIb.out _ _ _ _ _ _ 0 (by first|rfl|simp|omega) HS5.out.here HNb.out (by first|omega|decide)).mono ?_;rintro e W6 ⟨hf,hr⟩;rcases hq3:uD b 0 s3 with _|s4;(·rw[hq3] at hr;(obtain⟨p,rfl⟩:=hr);(obtain rfl:R=none:=(by rw[HR.out,hq3];try rfl));exact(show _∧_ from⟨rfl,HS5.out.fr.trans hf,⟨_,rfl⟩⟩));rw[hq3] at hr;(obtain⟨rfl,hr⟩:=hr);(have HS6:=aA (HS5.out.step hf hr));(have HX6:=aA (HX5.out.step hf));(obtain⟨c0,c1,c2,c3⟩:=HX6.out.cells);rw[hq3,Option.bind_some] at HR;(have hd4:=oD hq3);clear hf hr)
   |(go_at_call 92;revert HX4;intro HX4;(obtain⟨ka1,kc1,hnt,hcall⟩:=ZA (i:=1) HX4.out.nt HKb.out);refine hcall.mono ?_;rintro e W5 ⟨rfl,hb⟩;(have HS5:=aA (HS4.out.grow hb));(have HX5:=aA (HX4.out.step (WFr.of hb (Nat.le_of_lt HS4.out.wr.in))));(have HNb:=aA (hnt.step (P':=(·<wp)) (fun k hk=>⟨hb.block k (Nat.lt_trans hk HS4.out.wr.in),hk⟩)));(obtain⟨c0,c1,c2,c3⟩:=HX5.out.cells);clear hb hnt hcall)
   |(go_at_call 45;refine(XA HS3.out.wr (x:=sg 44) (by decide)).mono ?_;rintro e W4 ⟨hf,hr⟩;rcases hq2:MA s2 (sg 44) with _|s3;(·rw[hq2] at hr;(obtain⟨p,rfl⟩:=hr);(obtain rfl:R=none:=(by rw[HR.out,hq2];try rfl));exact(show _∧_ from⟨rfl,HS3.out.fr.trans hf,⟨_,rfl⟩⟩));rw[hq2] at hr;(obtain⟨rfl,hr⟩:=hr);(have HS4:=aA (HS3.out.step hf hr));(have HX4:=aA (HX3.out.step hf));(obtain⟨c0,c1,c2,c3⟩:=HX4.out.cells);rw[hq2,Option.bind_some] at HR;(have hd3:=aB hq2);clear hf hr)
   |(go_at_call 98;refine(HIa.out _ _ _ _ _ _ 0 (by first|rfl|simp|omega) HS2.out.here HNa.out (by first|omega|decide)).mono ?_;rintro e W3 ⟨hf,hr⟩;rcases hq1:uD a 0 s1 with _|s2;(·rw[hq1] at hr;(obtain⟨p,rfl⟩:=hr);(obtain rfl:R=none:=(by rw[HR.out,hq1];try rfl));exact(show _∧_ from⟨rfl,HS2.out.fr.trans hf,⟨_,rfl⟩⟩));rw[hq1] at hr;(obtain⟨rfl,hr⟩:=hr);(have HS3:=aA (HS2.out.step hf hr));(have HX3:=aA (HX2.out.step hf));(obtain⟨c0,c1,c2,c3⟩:=HX3.out.cells);rw[hq1,Option.bind_some] at HR;(have hd2:=oD hq1);clear hf hr)
   |(go_at_call 92;revert HX1;intro HX1;(obtain⟨ka0,kc0,hnt,hcall⟩:=ZA (i:=0) HX1.out.nt HKa.out);refine hcall.mono ?_;rintro e W2 ⟨rfl,hb⟩;(have HS2:=aA (HS1.out.grow hb));(have HX2:=aA (HX1.out.step (WFr.of hb (Nat.le_of_lt HS1.out.wr.in))));(have HNa:=aA (hnt.step (P':=(·<wp)) (fun k hk=>⟨hb.block k (Nat.lt_trans hk HS1.out.wr.in),hk⟩)));(obtain⟨c0,c1,c2,c3⟩:=HX2.out.cells);clear hb hnt hcall)
   |(go_at_call 45;refine(bD HS0.out.wr z0 (y:=sg 40) (by decide)).mono ?_;rintro e W1 ⟨hf,hr⟩;rcases hq0:CA s [t.kind,sg 40] with _|s1;(·rw[hq0] at hr;(obtain⟨p,rfl⟩:=hr);(obtain rfl:R=none:=(by rw[HR.out,hq0];try rfl));exact(show _∧_ from⟨rfl,HS0.out.fr.trans hf,⟨_,rfl⟩⟩));rw[hq0] at hr;(obtain⟨rfl,hr⟩:=hr);(have HS1:=aA (HS0.out.step hf hr));(have HX1:=aA (HX0.out.step hf));(obtain⟨c0,c1,c2,c3⟩:=HX1.out.cells);rw[hq0,Option.bind_some] at HR;(have hd1:=JC hq0);clear hf hr))
   go_end0
   (obtain rfl:R=some s5:=HR.out)
   exact⟨HS7.out.fr,rfl,HS7.out.wr⟩
 obtain⟨z0,z1,n0,n1,hOk⟩:=hO.is
 have hwp:=hS.wr.in
 have HX0:=aA (BX.new hN hwp)
 have HS0:=aA (hS.alloc (.cells (RA t ka kc) 25))
 obtain⟨W0,hW0⟩:∃W0,W0=w.alloc (.cells (RA t ka kc) 25):=⟨_,rfl⟩
 rw[←hW0] at HX0 HS0
 have HW:Hid (W0=w.alloc (.cells #[.string t.kind,.string t.word,.int .i64 t.num,.slice ka t.kids.length kc] 25)):=hW0
 obtain⟨R,hR⟩:∃R,R=ID t s:=⟨_,rfl⟩
 rw[←hR]
 rw[ID,if_neg (by rw[fA h0 (x:=JB) rfl];simp),if_neg (by rw[fA h1 (x:=qB) rfl];simp),if_neg (by rw[fA h2 (x:=wCount) rfl];simp),if_neg (by rw[fA h3 (x:=wTotal) rfl];simp),if_neg (by rw[fA h4 (x:=wMax) rfl,fA h5 (x:=wMin) rfl];simp)] at hR
 have HR:=aA hR
 obtain⟨c0,c1,c2,c3⟩:=HX0.out.cells
 clear hR hW0 hN
 obtain⟨p,ct⟩:=HS0.out.wr.g
 have HT:=aA (fun W=>IE 189 p W)
 unfold RA
 go_enter Tryz.func127,Tryz.ntmps127
 go_upto_region 1 with fail
 rw[←HW.out]
 go_wp2_with (go_at_call 50;refine(HT.out _).mono ?_;rintro e w' ⟨rfl,h9⟩;subst w')
 (obtain rfl:R=none:=HR.out)
 exact⟨rfl,HS0.out.fr,_,rfl⟩
end Go.Proofs.YtehbinobohjadaaGreatDoor

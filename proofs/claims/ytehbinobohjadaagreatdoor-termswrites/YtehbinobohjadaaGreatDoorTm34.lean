import Derived.Test.YtehbinobohjadaaGreatDoorTm00
import Derived.Test.YtehbinobohjadaaGreatDoorTm33
import Derived.Test.YtehbinobohjadaaGreatDoorTm27
import Derived.Test.YtehbinobohjadaaGreatDoorTm18
import Derived.Test.YtehbinobohjadaaGreatDoorTm11
import Derived.Test.YtehbinobohjadaaGreatDoorTm23
set_option maxHeartbeats 20000000
set_option maxRecDepth 20000
namespace Go.Proofs.YtehbinobohjadaaGreatDoor
open Go.RowKit Go.Extern.Stop Go.Stop Go.Extern
theorem wC(a b:ByteArray):vA a b=true↔a=b:=by
 unfold vA
 rw[beq_iff_eq,Lib.toList_data,Lib.toList_data,Array.toList_inj]
 exact⟨fun h=>ByteArray.ext h,fun h=>by rw[h]⟩
theorem YO{l:List ByteArray}{s:ByteArray}:(iA l s).isSome=true↔s∈l:=by
 unfold iA
 induction l with
 |nil=>simp
 |cons y l ih=>
  rw[List.findIdx?_cons]
  cases h:vA y s
  ·have hn:s≠y:=fun e=>by rw[e,(wC _ _).2 rfl] at h;cases h
   simp only[Bool.false_eq_true,if_false,Option.isSome_map,ih,List.mem_cons,hn,false_or]
  ·simp[(wC _ _).1 h]
theorem OM{l:List ByteArray}{s:ByteArray}:(iA l s).isNone=true↔s∉l:=by
 rw[←YO]
 cases iA l s<;>simp
structure NumO(t:ByteArray)(ds tl:List UInt8):Prop where
 eq:t.data.toList=ds++tl
 ne:ds≠[]
 all:∀c,c∈ds→lA c=true
 tl:tl=[]∨∃a b,tl=[46,a,b]∧lA a=true∧lA b=true
theorem mS{t:ByteArray}{ds tl:List UInt8}(h:NumO t ds tl):BE t=ds.length:=by
 unfold BE
 rw[h.eq,List.takeWhile_append_of_pos fun c hc=>by
  have:=h.all c hc
  simp only[bne_iff_ne,ne_eq]
  intro e
  rw[e] at this
  exact absurd this (by decide)]
 rcases h.tl with e|⟨a,b,e,_,_⟩<;>rw[e]<;>simp[List.takeWhile]
structure AllRules(L:List Tok)(bp tb cp f:Nat):Prop where
 ei:OD L bp tb cp 66 (zA L f)
 bo:OD L bp tb cp 112 (cD L f)
 un:OD L bp tb cp 132 (lB L f)
 te:OD L bp tb cp 147 (XD L f)
 su:OD L bp tb cp 67 (IB L f)
 pa:OD L bp tb cp 113 (FC L f)
 fa:OD L bp tb cp 133 (LB L f)
theorem YK{L:List Tok}{bp tb cp:Nat}(hL:∀(i:Nat) (t:Tok),L[i]?=some t→t.kind=TK.n→gG t.text):∀f f',f'≤f→AllRules L bp tb cp f'
 |f,0,_=>by
  constructor<;>intro w k n h hn<;>exfalso<;>apply hn
  ·rw[zA]
  ·rw[cD]
  ·rw[lB]
  ·rw[XD]
  ·rw[IB]
  ·rw[FC]
  ·rw[LB]
 |0,f'+1,h=>by omega
 |f+1,f'+1,h=>by
  have ih:=YK (bp:=bp) (tb:=tb) (cp:=cp) hL f
  have h':f'≤f:=by omega
  exact⟨dL fun q hq=>(ih q (by omega)).bo,yO fun q hq=>(ih q (by omega)).un,mM (ih f' h').un (ih f' h').te,mP (ih f' h').ei (ih f' h').su,IR fun q hq=>(ih q (by omega)).pa,VO hL fun q hq=>(ih q (by omega)).fa,kL hL (ih f' h').su⟩
theorem PS.keep{L:List Tok}{bp tb cp:Nat}{w w':World}{k:Nat}{n:Int}{cd ps:Nat}(h:PS L bp tb cp w k n cd ps)(h1:w'.heap[bp]?=w.heap[bp]?)(h2:w'.heap[tb]?=w.heap[tb]?):PS L bp tb cp w' k n cd ps:=
 ⟨h1.trans h.blk,fun i t e c hc=>(World.cell?_of_block (a:=⟨tb,i * 4+c,none⟩) h2).trans (h.tok i t e c hc),h.ne,h.lt,h.len,h.bc⟩
theorem POk.keep{L:List Tok}{bp tb cp:Nat}{w w':World}{k n:Nat}(h:POk L bp tb cp w k n)(h1:w'.heap[bp]?=w.heap[bp]?)(h2:w'.heap[tb]?=w.heap[tb]?):POk L bp tb cp w' k n:=⟨h.s.keep h1 h2,h.nb,h.nd⟩
section
variable {L:List Tok} {bp tb cp:Nat} {w:World} {k n k' n':Nat}
theorem SF(h:POk L bp tb cp w k n){x:ByteArray}(he:uB L k n=.ok x k' n'):
 Calls Tryz.prog 63 #[.pointer (some ⟨bp,0,none⟩)] w fun e w'=>e=.returned (.string x)∧POk L bp tb cp w' k' n'∧BelX w.heap.size bp w w':=by
 refine(tK h).mono ?_
 rintro e w' ⟨⟨s,rfl,hs⟩,hb⟩
 rw[he] at hs
 obtain⟨h1,rfl⟩:=hs
 exact⟨rfl,h1,hb⟩
theorem xF(h:POk L bp tb cp w k n){s:ByteArray}{b:Bool}(he:yB L s k n=.ok b k' n'):
 Calls Tryz.prog 64 #[.pointer (some ⟨bp,0,none⟩),.string s] w fun e w'=>e=.returned (.bool b)∧POk L bp tb cp w' k' n'∧BelX w.heap.size bp w w':=by
 refine(SH h s).mono ?_
 rintro e w' ⟨⟨s,rfl,hs⟩,hb⟩
 rw[he] at hs
 obtain⟨h1,rfl⟩:=hs
 exact⟨rfl,h1,hb⟩
theorem dH(h:POk L bp tb cp w k n){s:ByteArray}(he:oA L s k n=.ok () k' n'):
 Calls Tryz.prog 65 #[.pointer (some ⟨bp,0,none⟩),.string s] w fun e w'=>e=.returned (.tuple #[])∧POk L bp tb cp w' k' n'∧BelX w.heap.size bp w w':=by
 refine(UN h s).mono ?_
 rintro e w' ⟨rfl,hs,hb⟩
 rw[he] at hs
 exact⟨rfl,hs.1,hb⟩
theorem tV(h:POk L bp tb cp w k n)(he:pA L k n=.ok () k' n'):
 Calls Tryz.prog 110 #[.pointer (some ⟨bp,0,none⟩)] w fun e w'=>e=.returned (.tuple #[])∧POk L bp tb cp w' k' n'∧BelX w.heap.size bp w w':=by
 refine(SD h).mono ?_
 rintro e w' ⟨rfl,hs,hb⟩
 rw[he] at hs
 exact⟨rfl,hs.1,hb⟩
theorem xK(h:POk L bp tb cp w k n){ls:List ByteArray}{b c i:Nat}(hl:ls.length≤1000)(hk:∀i s,ls[i]?=some s→w.cell? ⟨b,0+i,none⟩=some (.string s))(he:aE L ls k n=.ok i k' n'):
 Calls Tryz.prog 69 #[.pointer (some ⟨bp,0,none⟩),.slice (some ⟨b,0,none⟩) ls.length c] w fun e w'=>e=.returned (.int .i64 i)∧POk L bp tb cp w' k' n'∧BelX w.heap.size bp w w':=by
 refine(AQ h ls b c hl hk).mono ?_
 rintro e w' ⟨⟨j,rfl,hs⟩,hb⟩
 rw[he] at hs
 obtain⟨h1,rfl⟩:=hs
 exact⟨rfl,h1,hb⟩
def KV(L:List Tok)(bp tb cp:Nat)(w:World)(x:Nd)(k' n':Nat)(e:Ending)(w':World):Prop:=∃(s0 s1:ByteArray) (n2:Int) (ka:Option Addr) (kn kc:Nat),e=.returned (.agg #[.string s0,.string s1,.int .i64 n2,.slice ka kn kc])∧POk L bp tb cp w' k' n'∧NL w' (fun b=>w.heap.size≤b) (nv (.string s0) (.string s1) (.int .i64 n2) (.slice ka kn kc)) x∧BelX w.heap.size bp w w'
theorem UM{fn:FuncId}{P:Nat→Nat→PR Nd}(h1:OD L bp tb cp fn P)(h:POk L bp tb cp w k n){x:Nd}(e:P k n=.ok x k' n'):Calls Tryz.prog fn #[.pointer (some ⟨bp,0,none⟩)] w fun e w'=>KV L bp tb cp w x k' n' e w':=by
 refine(h1 w k n h (by rw[e];intro h;cases h)).mono ?_
 rintro e2 w' ⟨⟨s0,s1,n2,ka,kn,kc,rfl,hs⟩,hb⟩
 rw[e] at hs
 exact⟨s0,s1,n2,ka,kn,kc,rfl,hs.1,hs.2,hb⟩
end
structure RSt(L:List Tok)(bp tb cp sp:Nat)(w0 w:World)(k n:Nat)(cs:Array Value):Prop where
 p:POk L bp tb cp w k n
 b:BelX w0.heap.size bp w0 w
 s:w.heap[sp]?=some (.cells cs 47 (0,0))
 z:cs.size=19
 lo:w0.heap.size≤sp
 bl:bp<w0.heap.size∧tb<w0.heap.size
theorem RSt.in{L:List Tok}{bp tb cp sp:Nat}{w0 w:World}{k n:Nat}{cs:Array Value}(h:RSt L bp tb cp sp w0 w k n cs):sp<w.heap.size:=(Array.getElem?_eq_some_iff.1 h.s).1
theorem RSt.call{L:List Tok}{bp tb cp sp:Nat}{w0 w w':World}{k n k' n':Nat}{cs:Array Value}(h:RSt L bp tb cp sp w0 w k n cs)(hp:POk L bp tb cp w' k' n')(hb:BelX w.heap.size bp w w'):RSt L bp tb cp sp w0 w' k' n' cs:=
 ⟨hp,h.b.then hb h.b.size,(hb.block sp h.in (by have:=h.lo;have:=h.bl;omega)).trans h.s,h.z,h.lo,h.bl⟩
theorem RSt.set{L:List Tok}{bp tb cp sp:Nat}{w0 w:World}{k n:Nat}{cs:Array Value}(h:RSt L bp tb cp sp w0 w k n cs)(i:Nat)(u:Value):RSt L bp tb cp sp w0 (w.setCell ⟨sp,i,none⟩ u) k n (cs.setIfInBounds i u):=by
 have hk:∀q,q≠sp→(w.setCell ⟨sp,i,none⟩ u).heap[q]?=w.heap[q]?:=fun q hq=>Below.heap_setCell _ _ _ _ hq
 have h1:=h.lo
 have h2:=h.bl
 exact⟨h.p.keep (hk bp (by omega)) (hk tb (by omega)),⟨h.b.os,h.b.tape,h.b.output,by simpa using h.b.size,fun q h3 h4=>(hk q (by omega)).trans (h.b.block q h3 h4)⟩,LA h.s u,by simpa using h.z,h.lo,h.bl⟩
theorem RSt.grow{L:List Tok}{bp tb cp sp:Nat}{w0 w w':World}{k n:Nat}{cs:Array Value}(h:RSt L bp tb cp sp w0 w k n cs)(hb:Below w.heap.size w w'):RSt L bp tb cp sp w0 w' k n cs:=h.call (h.p.below hb) (Below.x hb bp (nR _))
theorem RSt.cell{L:List Tok}{bp tb cp sp:Nat}{w0 w:World}{k n:Nat}{cs:Array Value}(h:RSt L bp tb cp sp w0 w k n cs){i:Nat}(hi:i<19):∃v,w.cell? ⟨sp,i,none⟩=some v:=by
 have h1:=h.s
 have h2:=h.z
 exact⟨cs[i]'(by omega),by simp[World.cell?,h1]⟩
theorem RSt.froz{L:List Tok}{bp tb cp sp:Nat}{w0 w:World}{k n:Nat}{cs:Array Value}(h:RSt L bp tb cp sp w0 w k n cs):∀i,w.frozen? ⟨sp,i,none⟩=false:=by
 have h1:=h.s
 simp[World.frozen?,h1]
def NIn(w0 w:World)(sp:Nat)(v:Nat→Value)(x:Nd):Prop:=NL w (fun b=>w0.heap.size≤b∧b≠sp) v x
theorem NIn.call{w0 w w':World}{sp bp:Nat}{v:Nat→Value}{x:Nd}(h:NIn w0 w sp v x)(hb:BelX w.heap.size bp w w')(hl:bp<w0.heap.size):NIn w0 w' sp v x:=h.step fun b h1 h2=>⟨hb.block b h1 (by omega),h2⟩
theorem NIn.set{w0 w:World}{sp:Nat}{v:Nat→Value}{x:Nd}(h:NIn w0 w sp v x)(i:Nat)(u:Value):NIn w0 (w.setCell ⟨sp,i,none⟩ u) sp v x:=h.step fun _ _ h2=>⟨Below.heap_setCell _ _ _ _ h2.2,h2⟩
theorem NIn.grow{w0 w w':World}{sp:Nat}{v:Nat→Value}{x:Nd}(h:NIn w0 w sp v x)(hb:Below w.heap.size w w'):NIn w0 w' sp v x:=h.step fun b h1 h2=>⟨hb.block b h1,h2⟩
def XK(L:List Tok)(bp tb cp:Nat)(w0:World)(x:SentW)(k n:Nat)(e:Ending)(w':World):Prop:=∃g cs,e=.returned (.pointer (some ⟨g,0,none⟩))∧RSt L bp tb cp g w0 w' k n cs∧SentC w0.heap.size x cs w'
def tB(a:ByteArray):Array Value:=#[.string a,.string ⟨#[]⟩,.int .i64 0,.bool false,.string ⟨#[]⟩,.string ⟨#[]⟩,.string ⟨#[]⟩,.int .i64 0,.slice none 0 0,.string ⟨#[]⟩,.string ⟨#[]⟩,.int .i64 0,.slice none 0 0,.int .i64 4,.slice none 0 0,.int .i64 0,.int .i64 0,.int .i64 0,.string ⟨#[]⟩]
theorem zN(a:ByteArray):Tryz.prog.built 47 [(0,.string a),(7,.int .i64 4)]=some (tB a):=by kernel_rfl
theorem qE{ops:Array Oper}{rest:List Oper}{o:Oper}{a:Act}{w:World}{Q:Exit→Act→World→Prop}(hg:o.guard=none)(parts:Array (Nat×Operand))(ho:o.op=.build 47 parts)(x:ByteArray)
 (hp:(parts.map fun (i,x)=>(i,a.eval x)).toList=[(0,.string x),(7,.int .i64 4)]) (h:wpList Tryz.prog ops Q rest (a.put o.dst (.agg (tB x))) w):wpList Tryz.prog ops Q (o::rest) a w:=
 wpList_build hg 47 parts ho (by rw[hp,zN];rfl) (by rw[hp,zN];exact h)
theorem RSt.start{L:List Tok}{bp tb cp:Nat}{w:World}{k n:Nat}(h:POk L bp tb cp w k n)(a:ByteArray):RSt L bp tb cp w.heap.size w (w.alloc (.cells (tB a) 47)) k n (tB a):=by
 have hb:Below w.heap.size w (w.alloc (.cells (tB a) 47)):=bA _ _
 exact⟨h.below hb,Below.x hb bp (nR _),heap_alloc_new _ _,rfl,nR _,h.s.in,h.s.tin⟩
theorem NIn.y{w0 w w':World}{sp bp:Nat}{v:Nat→Value}{x:Nd}(h:NIn w0 w sp v x)(hb:BelY w.heap.size bp sp w w')(hl:bp<w0.heap.size):NIn w0 w' sp v x:=h.step fun b h1 h2=>⟨hb.block b h1 (by omega) h2.2,h2⟩
theorem vI{L:List Tok}{bp tb cp sp f:Nat}{w0 w:World}{k n k' n':Nat}{cs:Array Value}{c:Nd}(h:RSt L bp tb cp sp w0 w k n cs)(hz:Empty4 cs 5)(hA:OD L bp tb cp 66 (zA L f))(he:tH L f k n=.ok c k' n'):
 Calls Tryz.prog 68 #[.pointer (some ⟨bp,0,none⟩),.pointer (some ⟨sp,0,none⟩)] w fun e w'=>e=.returned (.tuple #[])∧BelY w.heap.size bp sp w w'∧∃a b c4 d,RSt L bp tb cp sp w0 w' k' n' (uA cs 5 a b c4 d)∧NIn w0 w' sp (nv a b c4 d) c:=by
 unfold tH at he
 obtain⟨t,k1,n1,e1,e2⟩:=PR.bind_okE he
 have HS:=aA h
 have hne:sp≠bp:=by have:=h.lo;have:=h.bl;omega
 have HT:=aA (xF h.p e1)
 cases t with
 |false=>
  rw[if_neg (by simp)] at e2
  injection e2 with e3 e4 e5
  subst e3 e4 e5
  have HZ:=aA hz
  clear h hz e1 he hA
  go_enter Tryz.func68,Tryz.ntmps68
  go_wp2_with (go_at_call 64;refine HT.out.mono ?_;rintro e W2 ⟨rfl,hp,hb⟩;have H2:=aA (aI (HS.out.call hp hb) hb);clear hp hb)
  go_end0
  exact⟨rfl,H2.out.2.y sp,.string ⟨#[]⟩,.string ⟨#[]⟩,.int .i64 0,.slice none 0 0,by rw[HZ.out.put];exact H2.out.1,NL.leaf _ _ ⟨#[]⟩ ⟨#[]⟩ 0⟩
 |true=>
  rw[if_pos rfl] at e2
  have HE:=aA e2
  have HAr:=aA hA
  clear h hz e1 e2 he hA
  go_enter Tryz.func68,Tryz.ntmps68
  go_wp2_with (first|(go_at_call 64;refine HT.out.mono ?_;rintro e W2 ⟨rfl,hp,hb⟩;have H2:=aA (aI (HS.out.call hp hb) hb);clear hp hb)|(go_at_call 66;refine(UM HAr.out H2.out.1.p HE.out).mono ?_;rintro e W3 ⟨s0,s1,i2,ka,kn,kc,rfl,hp,hN,hb⟩;have hs3:=H2.out.1.call hp hb;obtain⟨c5,x5⟩:=hs3.cell (i:=5) (by omega);obtain⟨c6,x6⟩:=hs3.cell (i:=6) (by omega);obtain⟨c7,x7⟩:=hs3.cell (i:=7) (by omega);obtain⟨c8,x8⟩:=hs3.cell (i:=8) (by omega);have xf:=hs3.froz;have H3:=aA (aI hs3 (aI hN hb));clear hp hN hb hs3))
  go_end0
  have hin:=H2.out.1.in
  have hlo:=H2.out.1.b.size
  have hb2:=H2.out.2.size
  refine⟨rfl,((((((H2.out.2.y sp).then (H3.out.2.2.y sp) (by omega)).set 5 _).set 6 _).set 7 _).set 8 _),.string s0,.string s1,.int .i64 i2,.slice ka kn kc,(((H3.out.1.set 5 _).set 6 _).set 7 _).set 8 _,?_⟩
  exact((((show NIn w0 W3 sp _ c from H3.out.2.1.step fun b _ hp=>⟨rfl,by omega,by omega⟩).set 5 _).set 6 _).set 7 _).set 8 _
theorem sT{L:List Tok}{k:Nat}(hL:∀(i:Nat) (t:Tok),L[i]?=some t→t.kind=TK.n→gG t.text)(hk:(cA L k).kind=.n):gG (cA L k).text:=by
 have:L[k]?=some (cA L k):=by
  unfold cA at hk ⊢
  cases h:L[k]? with
  |none=>rw[h] at hk;cases hk
  |some t=>rfl
 exact hL k _ this hk
theorem qR{s:ByteArray}(h:kD s=false)(i:Nat)(hi:i<s.size):¬s[i].toNat=46:=by
 intro e
 unfold kD at h
 rw[List.any_eq_false] at h
 refine h s[i] ?_ (by rw[beq_iff_eq];exact UInt8.toNat_inj.1 e)
 have h1:=NA s i hi
 exact List.mem_of_mem_drop (i:=i) (by rw[h1];simp)
theorem lM(w:World):∀i s,unitsW[i]?=some s→(w.alloc (.cells #[.string ⟨#[100,97,121,115]⟩,.string ⟨#[119,111,114,107,105,110,103]⟩,.string ⟨#[119,101,101,107,115]⟩,.string ⟨#[109,111,110,116,104,115]⟩,.string ⟨#[121,101,97,114,115]⟩] 9)).cell? ⟨w.heap.size,0+i,none⟩=some (.string s):=tD w unitsW 9
theorem PL(w:World):∀i s,kJ[i]?=some s→(w.alloc (.cells #[.string ⟨#[110,101,120,116]⟩,.string ⟨#[98,101,102,111,114,101]⟩] 9)).cell? ⟨w.heap.size,0+i,none⟩=some (.string s):=tD w kJ 9
theorem qN(w:World):∀i s,waysW[i]?=some s→(w.alloc (.cells #[.string ⟨#[100,111,119,110]⟩,.string ⟨#[117,112]⟩,.string ⟨#[102,108,111,111,114]⟩,.string ⟨#[99,101,105,108]⟩,.string ⟨#[104,97,108,102,95,117,112]⟩,.string ⟨#[104,97,108,102,95,101,118,101,110]⟩] 9)).cell? ⟨w.heap.size,0+i,none⟩=some (.string s):=tD w waysW 9
theorem ND{W:World}{g:Nat}{a b c:Value}{t:TypeId}(h:W.heap[g]?=some (.cells #[a,b,c] t (0,0))):W.cell? ⟨g,0,none⟩=some a∧W.cell? ⟨g,1,none⟩=some b∧W.cell? ⟨g,2,none⟩=some c∧∀i,W.frozen? ⟨g,i,none⟩=false:=by
 simp[World.cell?,World.frozen?,h]
structure TmAt(L:List Tok)(bp tb cp g r:Nat)(w W:World)(k n:Nat)(a b c:Value):Prop where
 pk:POk L bp tb cp W k n
 bx:BelX w.heap.size bp w W
 tm:W.heap[g]?=some (.cells #[a,b,c] 45 (0,0))
 rs:W.heap[r]?=some (.cells #[.int .i64 0,.int .i64 0,.int .i64 0] 45 (0,0))
 lo:w.heap.size≤r∧r<g∧bp<w.heap.size∧tb<w.heap.size
theorem TmAt.call{L:List Tok}{bp tb cp g r:Nat}{w W W':World}{k n k' n':Nat}{a b c:Value}(h:TmAt L bp tb cp g r w W k n a b c)(hp:POk L bp tb cp W' k' n')(hb:BelX W.heap.size bp W W'):TmAt L bp tb cp g r w W' k' n' a b c:=by
 have h1:=h.lo
 exact⟨hp,h.bx.then hb h.bx.size,(hb.block g (Array.getElem?_eq_some_iff.1 h.tm).1 (by omega)).trans h.tm,(hb.block r (Array.getElem?_eq_some_iff.1 h.rs).1 (by omega)).trans h.rs,h.lo⟩
theorem TmAt.grow{L:List Tok}{bp tb cp g r:Nat}{w W W':World}{k n:Nat}{a b c:Value}(h:TmAt L bp tb cp g r w W k n a b c)(hb:Below W.heap.size W W'):TmAt L bp tb cp g r w W' k n a b c:=h.call (h.pk.below hb) (Below.x hb bp (nR _))
theorem TmAt.set{L:List Tok}{bp tb cp g r:Nat}{w W:World}{k n:Nat}{a b c a' b' c':Value}(h:TmAt L bp tb cp g r w W k n a b c)(i:Nat)(u:Value)(e:(#[a,b,c]:Array Value).setIfInBounds i u=#[a',b',c']):TmAt L bp tb cp g r w (W.setCell ⟨g,i,none⟩ u) k n a' b' c':=by
 have hk:∀q,q≠g→(W.setCell ⟨g,i,none⟩ u).heap[q]?=W.heap[q]?:=fun q hq=>Below.heap_setCell _ _ _ _ hq
 have h1:=h.lo
 exact⟨h.pk.keep (hk bp (by omega)) (hk tb (by omega)),⟨h.bx.os,h.bx.tape,h.bx.output,by simpa using h.bx.size,fun q h3 h4=>(hk q (by omega)).trans (h.bx.block q h3 h4)⟩,by rw[LA h.tm,e],(hk r (by omega)).trans h.rs,h.lo⟩
theorem TmAt.done{L:List Tok}{bp tb cp g r:Nat}{w W:World}{k n:Nat}{a b c:Value}(h:TmAt L bp tb cp g r w W k n a b c)(x y z:Value):POk L bp tb cp (((W.setCell ⟨r,0,none⟩ x).setCell ⟨r,1,none⟩ y).setCell ⟨r,2,none⟩ z) k n∧BelX w.heap.size bp w (((W.setCell ⟨r,0,none⟩ x).setCell ⟨r,1,none⟩ y).setCell ⟨r,2,none⟩ z):=by
 have h1:=h.lo
 have hk:∀q,q≠r→(((W.setCell ⟨r,0,none⟩ x).setCell ⟨r,1,none⟩ y).setCell ⟨r,2,none⟩ z).heap[q]?=W.heap[q]?:=fun q hq=>by rw[Below.heap_setCell _ _ _ _ hq,Below.heap_setCell _ _ _ _ hq,Below.heap_setCell _ _ _ _ hq]
 exact⟨h.pk.keep (hk bp (by omega)) (hk tb (by omega)),⟨h.bx.os,h.bx.tape,h.bx.output,by simpa using h.bx.size,fun q h3 h4=>(hk q (by omega)).trans (h.bx.block q h3 h4)⟩⟩
theorem pR{l:List ByteArray}{s:ByteArray}{i:Nat}(h:iA l s=some i):i<l.length:=by
 unfold iA at h
 exact(List.findIdx?_eq_some_iff_getElem.1 h).1
theorem SO{L:List Tok}{l:List ByteArray}{k n k' n' i:Nat}(h:aE L l k n=.ok i k' n'):i<l.length:=by
 unfold aE at h
 split at h
 ·cases hp:iA l (cA L k).text with
  |none=>rw[hp] at h;cases h
  |some j=>
   rw[hp] at h
   obtain⟨_,_,_,_,e⟩:=PR.bind_okE h
   injection e with e _ _
   rw[←e]
   exact pR hp
 ·cases h
set_option maxRecDepth 10000 in
theorem yV{L:List Tok}{bp tb cp:Nat}{w:World}{k n k' n' tn tu tr:Nat}(h:POk L bp tb cp w k n)(g:GoodL L)(hL:∀(i:Nat) (t:Tok),L[i]?=some t→t.kind=TK.n→gG t.text)(he:VJ L k n=.ok (tn,tu,tr) k' n'):
 Calls Tryz.prog 70 #[.pointer (some ⟨bp,0,none⟩)] w fun e w'=>e=.returned (.agg #[.int .i64 tn,.int .i64 tu,.int .i64 tr])∧POk L bp tb cp w' k' n'∧BelX w.heap.size bp w w':=by
 unfold VJ at he
 have hnot:¬((cA L k).kind≠.n∨kD (cA L k).text=true):=fun h=>by rw[if_pos h] at he;cases he
 rw[if_neg hnot] at he
 have hkn:(cA L k).kind=.n:=by
  cases hk:(cA L k).kind<;>first|rfl|exact absurd (.inl (by rw[hk];intro h;cases h)) hnot
 have hpt:kD (cA L k).text=false:=by
  cases hp:kD (cA L k).text
  ·rfl
  ·exact absurd (.inr hp) hnot
 have hbig:¬100000<CC (cA L k).text / 100:=fun h=>by rw[if_pos h] at he;cases he
 rw[if_neg hbig] at he
 obtain⟨_,k1,n1,e1,he⟩:=PR.bind_okE he
 obtain⟨u,k2,n2,e2,he⟩:=PR.bind_okE he
 obtain⟨b,k3,n3,e3,he⟩:=PR.bind_okE he
 have hnum:=sT hL hkn
 have hpos:0<(cA L k).text.size:=by
  obtain⟨c,r,e,_⟩:=g.fn k hkn
  rw[Lib.toList_data] at e
  rw[←xA,e];simp
 have hsz:=hnum.1
 have hin:=h.s.in
 have htin:=h.s.tin
 have h0:((kB (cA L k).kind).toList==[110])=true:=by rw[hkn,Lib.toList_data];decide
 have HPt:=aA (qR hpt)
 have HHu:=aA (lK (cA L k).text hnum)
 obtain⟨H,hH⟩:∃H:Nat,H=CC (cA L k).text:=⟨_,rfl⟩
 rw[←hH] at HHu hbig
 obtain⟨W1,hW1⟩:∃W1,W1=w.alloc (.cells #[.int .i64 0,.int .i64 0,.int .i64 0] 45):=⟨_,rfl⟩
 have hb1:Below w.heap.size w W1:=by rw[hW1];exact bA _ _
 have hr1:W1.heap[w.heap.size]?=some (.cells #[.int .i64 0,.int .i64 0,.int .i64 0] 45 (0,0)):=by rw[hW1];exact heap_alloc_new _ _
 have hs1:W1.heap.size=w.heap.size+1:=by rw[hW1];simp
 have HSee:=aA (RD (h.below hb1).s h.nb)
 unfold sI at HSee
 have H1:=aA (aI (h.below hb1) (aI hb1 hr1))
 have HW1:=aA hW1
 have HF:=aA (aI e1 (aI e2 (aI e3 (aI he hH))))
 clear e1 e2 e3 he hH hnot hkn hpt hnum hL g hb1 hr1 hW1 h
 generalize kB (cA L k).kind=K0 at *
 generalize hK1:(cA L k).text=K1 at *
 generalize (cA L k).pos=K2 at *
 generalize (cA L k).code=K3 at *
 clear hK1
 obtain⟨Q,hQ⟩:∃Q:Nat,Q=H / 100:=⟨_,rfl⟩
 have hq:((H:Int) / 100)=(Q:Int):=by omega
 have hq2:(H:Int).tdiv 100=(Q:Int):=by rw[Int.tdiv_eq_ediv_of_nonneg (by omega)];exact hq
 have hbz:¬(100000:Int)<(Q:Int):=by omega
 have HQ:=aA hQ
 clear hQ hbig
 have hlast:((K1.extract (K1.size - 1) K1.size).toList==[])=false:=by
  rw[Lib.toList_data,beq_eq_false_iff_ne]
  intro e
  have h9:(K1.extract (K1.size - 1) K1.size).size=1:=by rw[ByteArray.size_extract];omega
  rw[←xA,e] at h9
  cases h9
 have hz1:(0:Int)≤(K1.size:Int) - 1:=by omega
 have hz2:((K1.size:Int) - 1).toNat=K1.size - 1:=by omega
 have hz3:(K1.size:Int) - 1≤K1.size:=by omega
 go_enter Tryz.func70,Tryz.ntmps70
 go_upto_region 1 with fail
 rw[←HW1.out]
 go_upto_region 2 with (go_at_call 30;refine HSee.out.mono ?_;rintro e W2 ⟨rfl,hB2⟩;have hB2s:=hB2.size;have H2:=aA hB2;clear hB2)
 obtain⟨W3,hW3⟩:∃W3,W3=W2.alloc (.cells #[.string K0,.string K1,.int .i64 K2,.int .i64 K3] 82):=⟨_,rfl⟩
 rw[←hW3]
 have c0:W3.cell? ⟨W2.heap.size,0,none⟩=some (.string K0):=by rw[hW3];simp
 have c1:W3.cell? ⟨W2.heap.size,1,none⟩=some (.string K1):=by rw[hW3];simp
 have c2:W3.cell? ⟨W2.heap.size,2,none⟩=some (.int .i64 K2):=by rw[hW3];simp
 have hB3:Below W1.heap.size W1 W3:=by rw[hW3];exact H2.out.alloc hB2s _
 have hs3:W3.heap.size=W2.heap.size+1:=by rw[hW3];simp
 have H3:=aA hB3
 clear hW3 hB3 H2 HSee
 generalize W2.heap.size=g2 at *
 go_wp2_with fail
 go_loopw [4] (fun y wr=>∃i:Nat,y=.int .i64 i∧i≤K1.size∧wr=W3) (fun y _=>(K1.size - RowKit.intOf y).toNat)
 case atStart=>exact⟨0,rfl,by omega,rfl⟩
 case round=>
  obtain⟨i,rfl,hi,hwr⟩:=hrel
  subst hwr
  by_cases hlt:i<K1.size
  ·have hiz:(i:Int)<K1.size:=by omega
   have hp46:=HPt.out i hlt
   go_wp2
   go_roundw
   case rel=>exact⟨i+1,by go_num,by omega,trivial⟩
   case measure=>simp[RowKit.intOf];omega
  ·have hiz:¬(i:Int)<K1.size:=by omega
   have HSt:=aA (tV ((H1.out.1.below H3.out)) HF.out.1)
   go_upto_region 17 with (first|(go_at_call 114;refine(HHu.out _).mono ?_;rintro e w' ⟨rfl,rfl⟩)|(go_at_call 110;refine HSt.out.mono ?_;rintro e W5 ⟨rfl,hp5,hb5⟩;have hs5:=hb5.size;have H5:=aA (aI hp5 hb5);clear hp5 hb5))
   obtain⟨V,hV⟩:∃V,V=W5.alloc (.cells #[.int .i64 Q,.int .i64 0,.int .i64 0] 45):=⟨_,rfl⟩
   rw[←hV]
   have hbA:Below W5.heap.size W5 V:=by rw[hV];exact bA _ _
   have hs1':=hs1
   have hT:TmAt L bp tb cp W5.heap.size w.heap.size w V k1 n1 (.int .i64 Q) (.int .i64 0) (.int .i64 0):=by
    have h3s:=H3.out.size
    refine⟨H5.out.1.below hbA,(((Below.x H1.out.2.1 bp (nR _)).then (Below.x H3.out bp (nR _)) H1.out.2.1.size).then H5.out.2 (by omega)).then (Below.x hbA bp (nR _)) (by omega),by rw[hV];exact heap_alloc_new _ _,?_,⟨nR _,by omega,hin,htin⟩⟩
    exact(hbA.block _ (by omega)).trans ((H5.out.2.block _ (by omega) (by omega)).trans ((H3.out.block _ (by omega)).trans H1.out.2.2))
   have HT:=aA hT
   have hgr:w.heap.size<W5.heap.size:=hT.lo.2.1
   clear hV hbA hT H5 H3 H1 HSt c0 c1 c2 hs3 hs5 hB2s
   generalize W5.heap.size=g at *
   have hbu:Below V.heap.size V (V.alloc (.cells #[.string ⟨#[100,97,121,115]⟩,.string ⟨#[119,111,114,107,105,110,103]⟩,.string ⟨#[119,101,101,107,115]⟩,.string ⟨#[109,111,110,116,104,115]⟩,.string ⟨#[121,101,97,114,115]⟩] 9)):=bA _ _
   have HU:=aA (HT.out.grow hbu)
   have HOn:=aA (xK (b:=V.heap.size) (c:=5) HU.out.pk (by decide) (lM V) HF.out.2.1)
   clear hbu
   go_upto_region 18 with (go_at_call 69;refine HOn.out.mono ?_;rintro e W6 ⟨rfl,hp,hb⟩;have hT6:=HU.out.call hp hb;obtain⟨a0,a1,a2,af⟩:=ND hT6.tm;have H6:=aA hT6;clear hp hb hT6)
   obtain⟨V6,hV6⟩:∃V6,V6=W6.setCell ⟨g,1,none⟩ (.int .i64 u):=⟨_,rfl⟩
   rw[←hV6]
   have hT7:TmAt L bp tb cp g w.heap.size w V6 k2 n2 (.int .i64 Q) (.int .i64 u) (.int .i64 0):=by rw[hV6];exact H6.out.set 1 _ rfl
   have H7:=aA hT7
   have HTk:=aA (xF hT7.pk HF.out.2.2.1)
   clear hT7 hV6 a0 a1 a2 af H6 HOn HU HT
   have HFi:=aA HF.out.2.2.2
   clear HF
   cases b with
   |false=>
    rw[if_neg (by simp)] at HFi
    have hE:(CC K1 / 100,u,0)=(tn,tu,tr)∧k3=k'∧n3=n':=by
     have h9:=HFi.out.1
     injection h9 with h1 h2 h3
     exact⟨h1,h2,h3⟩
    obtain⟨hE1,rfl,rfl⟩:=hE
    injection hE1 with hE1 hE2
    injection hE2 with hE2 hE3
    subst hE2 hE3
    obtain rfl:tn=Q:=by rw[HQ.out,HFi.out.2,hE1]
    clear HFi hE1
    go_wp2_with (go_at_call 64;refine HTk.out.mono ?_;rintro e W8 ⟨rfl,hp,hb⟩;have hT8:=H7.out.call hp hb;obtain⟨a0,a1,a2,af⟩:=ND hT8.tm;obtain⟨b0,b1,b2,bf⟩:=ND hT8.rs;have H8:=aA hT8;clear hp hb hT8)
    refine bodyPost_ret (v:=.agg #[.int .i64 tn,.int .i64 u,.int .i64 0]) (by simp[results,Tryz.results70,go_sem,b0,b1,b2]) rfl ?_
    exact⟨rfl,H8.out.done _ _ _⟩
   |true=>
    rw[if_pos rfl] at HFi
    obtain⟨r,k4,n4,e4,e5⟩:=PR.bind_okE HFi.out.1
    injection e5 with e5 e6 e7
    subst e6 e7
    injection e5 with hE1 hE2
    injection hE2 with hE2 hE3
    subst hE2
    obtain rfl:tn=Q:=by rw[HQ.out,HFi.out.2,hE1]
    have hrz:(1:Int)+r=tr:=by omega
    have hr2:r<2:=SO e4
    have htr:(tr:Int)≤2:=by omega
    have HE4:=aA e4
    clear HFi hE1 hE3 e4
    go_upto_region 20 with (go_at_call 64;refine HTk.out.mono ?_;rintro e W8 ⟨rfl,hp,hb⟩;have H8:=aA (H7.out.call hp hb);clear hp hb)
    have hbu:Below W8.heap.size W8 (W8.alloc (.cells #[.string ⟨#[110,101,120,116]⟩,.string ⟨#[98,101,102,111,114,101]⟩] 9)):=bA _ _
    have HU:=aA (H8.out.grow hbu)
    have HOn:=aA (xK (b:=W8.heap.size) (c:=2) HU.out.pk (by decide) (PL W8) HE4.out)
    clear hbu
    go_upto_region 21 with (go_at_call 69;refine HOn.out.mono ?_;rintro e W9 ⟨rfl,hp,hb⟩;have hT9:=HU.out.call hp hb;obtain⟨a0,a1,a2,af⟩:=ND hT9.tm;have H9:=aA hT9;clear hp hb hT9)
    obtain⟨V9,hV9⟩:∃V9,V9=W9.setCell ⟨g,2,none⟩ (.int .i64 tr):=⟨_,rfl⟩
    rw[←hV9]
    have hT9:TmAt L bp tb cp g w.heap.size w V9 k4 n4 (.int .i64 tn) (.int .i64 u) (.int .i64 tr):=by rw[hV9];exact H9.out.set 2 _ rfl
    clear a0 a1 a2 af hV9 H9
    obtain⟨a0,a1,a2,af⟩:=ND hT9.tm
    obtain⟨b0,b1,b2,bf⟩:=ND hT9.rs
    have H9:=aA hT9
    clear hT9
    go_wp2
    refine bodyPost_ret (v:=.agg #[.int .i64 tn,.int .i64 u,.int .i64 tr]) (by simp[results,Tryz.results70,go_sem,b0,b1,b2]) rfl ?_
    exact⟨rfl,H9.out.done _ _ _⟩
end Go.Proofs.YtehbinobohjadaaGreatDoor

import Derived.Test.YtehbinobohjadaaGreatDoorTm00
import Derived.Test.YtehbinobohjadaaGreatDoorTm04
import Derived.Test.YtehbinobohjadaaGreatDoorTm03
import Derived.Lib.Bytes
import Derived.BigQuiet
import Derived.Deep.RegionLaw
import Derived.Deep.DeepCutAuto
set_option maxHeartbeats 20000000
set_option maxRecDepth 20000
namespace Go.Proofs.YtehbinobohjadaaGreatDoor
open Go.RowKit Go.Extern.Stop Go.Stop Go.Extern
def kB:TK→ByteArray
 | .w=>⟨#[119]⟩
 | .n=>⟨#[110]⟩
 | .s=>⟨#[115]⟩
 | .e=>⟨#[101]⟩
 | .b=>⟨#[98]⟩
def jH(t:Tok):Nat→Value
 |0=>.string (kB t.kind)
 |1=>.string t.text
 |2=>.int .i64 t.pos
 |_=>.int .i64 t.code
structure PS(L:List Tok)(bp tb cp:Nat)(w:World)(k:Nat)(n:Int)(cd ps:Nat):Prop where
 blk:w.heap[bp]?=some (.cells #[.slice (some ⟨tb,0,none⟩) L.length cp,.int .i64 k,.int .i64 n,.int .i64 cd,.int .i64 ps] 80 (0,0))
 tok:∀i t,L[i]?=some t→∀c,c<4→w.cell? ⟨tb,i * 4+c,none⟩=some (jH t c)
 ne:tb≠bp
 lt:k<L.length
 len:L.length≤4000
 bc:∀(i:Nat) (t:Tok),L[i]?=some t→t.kind=TK.b→0<t.code
theorem PS.in{L:List Tok}{bp tb cp:Nat}{w:World}{k:Nat}{n:Int}{cd ps:Nat}(h:PS L bp tb cp w k n cd ps):bp<w.heap.size:=by
 have h1:=h.blk
 rcases Nat.lt_or_ge bp w.heap.size with h2|h2
 ·exact h2
 ·rw[Array.getElem?_eq_none h2] at h1;cases h1
theorem PS.cells{L:List Tok}{bp tb cp:Nat}{w:World}{k:Nat}{n:Int}{cd ps:Nat}(h:PS L bp tb cp w k n cd ps):
 w.cell? ⟨bp,0,none⟩=some (.slice (some ⟨tb,0,none⟩) L.length cp)∧w.cell? ⟨bp,1,none⟩=some (.int .i64 k)∧w.cell? ⟨bp,2,none⟩=some (.int .i64 n)∧w.cell? ⟨bp,3,none⟩=some (.int .i64 cd)∧w.cell? ⟨bp,4,none⟩=some (.int .i64 ps)∧∀i,w.frozen? ⟨bp,i,none⟩=false:=by
 have h1:=h.blk
 simp[World.cell?,World.frozen?,h1]
theorem vC{L:List Tok}{k:Nat}(h:k<L.length):L[k]?=some (cA L k):=by
 unfold cA
 rw[List.getElem?_eq_getElem h];rfl
theorem PS.tokens{L:List Tok}{bp tb cp:Nat}{w:World}{k:Nat}{n:Int}{cd ps:Nat}(h:PS L bp tb cp w k n cd ps):
 w.cell? ⟨tb,k * 4,none⟩=some (.string (kB (cA L k).kind))∧w.cell? ⟨tb,k * 4+1,none⟩=some (.string (cA L k).text)∧w.cell? ⟨tb,k * 4+2,none⟩=some (.int .i64 (cA L k).pos)∧w.cell? ⟨tb,k * 4+3,none⟩=some (.int .i64 (cA L k).code):=by
 have h1:=h.tok k _ (vC h.lt)
 exact⟨h1 0 (by omega),h1 1 (by omega),h1 2 (by omega),h1 3 (by omega)⟩
theorem PS.tin{L:List Tok}{bp tb cp:Nat}{w:World}{k:Nat}{n:Int}{cd ps:Nat}(h:PS L bp tb cp w k n cd ps):tb<w.heap.size:=fB h.tokens.1
theorem PS.turn{L:List Tok}{bp tb cp:Nat}{w w':World}{k:Nat}{n:Int}{cd ps:Nat}(h:PS L bp tb cp w k n cd ps)(hb:BelX w.heap.size bp w w'){k':Nat}{n':Int}{cd' ps':Nat}(hk:k'<L.length)
 (hn:w'.heap[bp]?=some (.cells #[.slice (some ⟨tb,0,none⟩) L.length cp,.int .i64 k',.int .i64 n',.int .i64 cd',.int .i64 ps'] 80 (0,0))):PS L bp tb cp w' k' n' cd' ps':=
 ⟨hn,fun i t e c hc=>(hb.cell (p:=⟨tb,i * 4+c,none⟩) h.tin h.ne).trans (h.tok i t e c hc),h.ne,hk,h.len,h.bc⟩
theorem PS.below{L:List Tok}{bp tb cp:Nat}{w w':World}{k:Nat}{n:Int}{cd ps:Nat}(h:PS L bp tb cp w k n cd ps)(hb:Below w.heap.size w w'):PS L bp tb cp w' k n cd ps:=
 h.turn (Below.x hb bp (nR _)) h.lt ((hb.block bp h.in).trans h.blk)
theorem PS.code{L:List Tok}{bp tb cp:Nat}{w:World}{k:Nat}{n:Int}{cd ps:Nat}(h:PS L bp tb cp w k n cd ps)(hb:(cA L k).kind=.b):0<(cA L k).code:=h.bc k _ (vC h.lt) hb
structure POk(L:List Tok)(bp tb cp:Nat)(w:World)(k n:Nat):Prop where
 s:PS L bp tb cp w k n 0 0
 nb:(cA L k).kind≠.b
 nd:n≤40
def PBad(L:List Tok)(bp tb cp:Nat)(w:World)(c a:Nat):Prop:=0<c∧∃k n,PS L bp tb cp w k n c a
def PSt(L:List Tok)(bp tb cp:Nat)(w':World){α:Type}(r:PR α)(V:α→Prop):Prop:=match r with
 | .out=>True
 | .bad c a=>PBad L bp tb cp w' c a
 | .ok x k n=>POk L bp tb cp w' k n∧V x
theorem POk.below{L:List Tok}{bp tb cp:Nat}{w w':World}{k n:Nat}(h:POk L bp tb cp w k n)(hb:Below w.heap.size w w'):POk L bp tb cp w' k n:=⟨h.s.below hb,h.nb,h.nd⟩
theorem PBad.below{L:List Tok}{bp tb cp:Nat}{w w':World}{c a:Nat}(h:PBad L bp tb cp w c a)(hb:Below w.heap.size w w'):PBad L bp tb cp w' c a:=by
 obtain⟨h1,k,n,h2⟩:=h
 exact⟨h1,k,n,h2.below hb⟩
theorem CB{a b:Bool}(h:a=b):Ending.returned (.bool a)=.returned (.bool b):=by rw[h]
theorem SN(c:UInt8)(w:World):Calls Tryz.prog 59 #[.int .u8 c.toNat] w fun e w'=>e=.returned (.bool (PB c))∧w'=w:=by
 have hO:Hid (PB c=(decide (97≤c.toNat)&&decide (c.toNat≤122))):=rfl
 generalize PB c=O at *
 by_cases h1:97≤c.toNat
 ·go_enter Tryz.func59,Tryz.ntmps59
  go_wp2
  go_ret
  exact⟨CB (by rw[hO.out,Bool.eq_iff_iff];simp;try omega),rfl⟩
 ·go_enter Tryz.func59,Tryz.ntmps59
  go_wp2
  go_ret
  exact⟨CB (by rw[hO.out,Bool.eq_iff_iff];simp;try omega),rfl⟩
theorem wK(c:UInt8)(w:World):Calls Tryz.prog 60 #[.int .u8 c.toNat] w fun e w'=>e=.returned (.bool (lA c))∧w'=w:=by
 have hO:Hid (lA c=(decide (48≤c.toNat)&&decide (c.toNat≤57))):=rfl
 generalize lA c=O at *
 by_cases h1:48≤c.toNat
 ·go_enter Tryz.func60,Tryz.ntmps60
  go_wp2
  go_ret
  exact⟨CB (by rw[hO.out,Bool.eq_iff_iff];simp;try omega),rfl⟩
 ·go_enter Tryz.func60,Tryz.ntmps60
  go_wp2
  go_ret
  exact⟨CB (by rw[hO.out,Bool.eq_iff_iff];simp;try omega),rfl⟩
theorem GM(c:UInt8)(w:World):Calls Tryz.prog 61 #[.int .u8 c.toNat] w fun e w'=>e=.returned (.bool (JA c))∧w'=w:=by
 have hO:Hid (JA c=(PB c||(decide (48≤c.toNat)&&decide (c.toNat≤57))||decide (c.toNat=95))):=rfl
 have HL:=aA (SN c)
 generalize JA c=O at *
 cases hl:PB c with
 |true=>
  rw[hl] at hO HL
  clear hl
  go_enter Tryz.func61,Tryz.ntmps61
  go_wp2_with (go_at_call 59;refine(HL.out _).mono ?_;rintro e w' ⟨rfl,rfl⟩)
  go_ret
  exact⟨CB (by rw[hO.out,Bool.eq_iff_iff];simp;try omega),rfl⟩
 |false=>
  rw[hl] at hO HL
  clear hl
  by_cases h1:48≤c.toNat
  ·by_cases h2:c.toNat≤57
   ·go_enter Tryz.func61,Tryz.ntmps61
    go_wp2_with (go_at_call 59;refine(HL.out _).mono ?_;rintro e w' ⟨rfl,rfl⟩)
    all_goals (go_ret;exact⟨CB (by rw[hO.out,Bool.eq_iff_iff];simp;try omega),rfl⟩)
   ·have h3:¬c.toNat=48:=by omega
    go_enter Tryz.func61,Tryz.ntmps61
    go_wp2_with (go_at_call 59;refine(HL.out _).mono ?_;rintro e w' ⟨rfl,rfl⟩)
    all_goals (go_ret;exact⟨CB (by rw[hO.out,Bool.eq_iff_iff];simp;try omega),rfl⟩)
  ·go_enter Tryz.func61,Tryz.ntmps61
   go_wp2_with (go_at_call 59;refine(HL.out _).mono ?_;rintro e w' ⟨rfl,rfl⟩)
   all_goals (go_ret;exact⟨CB (by rw[hO.out,Bool.eq_iff_iff];simp;try omega),rfl⟩)
theorem UI{L:List Tok}{bp tb cp:Nat}{w:World}{k:Nat}{n:Int}{cd ps:Nat}(h:PS L bp tb cp w k n cd ps)(hc:0<cd)(c a:Int):
 Calls Tryz.prog 62 #[.pointer (some ⟨bp,0,none⟩),.int .i64 c,.int .i64 a] w fun e w'=>e=.returned (.tuple #[])∧w'=w:=by
 obtain⟨x0,x1,x2,x3,x4,xf⟩:=h.cells
 have hz:((cd:Int)==0)=false:=by rw[beq_eq_false_iff_ne];omega
 have hz2:¬cd=0:=by omega
 clear h
 go_enter Tryz.func62,Tryz.ntmps62
 go_wp2
 go_end0
 exact⟨rfl,rfl⟩
theorem LA{w:World}{b i:Nat}{cs:Array Value}{t:TypeId}{fr:Nat×Nat}(h:w.heap[b]?=some (.cells cs t fr))(u:Value):(w.setCell ⟨b,i,none⟩ u).heap[b]?=some (.cells (cs.setIfInBounds i u) t fr):=by
 unfold World.setCell
 simp[Array.getElem?_modify,h]
theorem oG{L:List Tok}{bp tb cp:Nat}{w:World}{k:Nat}{n:Int}{ps:Nat}(h:PS L bp tb cp w k n 0 ps)(c a:Nat):
 Calls Tryz.prog 62 #[.pointer (some ⟨bp,0,none⟩),.int .i64 c,.int .i64 a] w fun e w'=>e=.returned (.tuple #[])∧PS L bp tb cp w' k n c a∧BelX w.heap.size bp w w':=by
 obtain⟨x0,x1,x2,x3,x4,xf⟩:=h.cells
 have HP:=aA h
 clear h
 go_enter Tryz.func62,Tryz.ntmps62
 go_wp2
 go_end0
 have hb:BelX w.heap.size bp w ((w.setCell ⟨bp,3,none⟩ (.int .i64 c)).setCell ⟨bp,4,none⟩ (.int .i64 a)):=((BelX.refl w.heap.size bp w).setCell (p:=⟨bp,3,none⟩) (.inr rfl) _).setCell (p:=⟨bp,4,none⟩) (.inr rfl) _
 refine⟨rfl,HP.out.turn hb HP.out.lt ?_,hb⟩
 rw[LA (LA HP.out.blk _) _]
 simp
def vP:Value:=.agg #[.string ⟨#[120]⟩,.string ⟨#[]⟩,.int .i64 0,.int .i64 0]
def sI(t:Tok):Value:=.agg #[.string (kB t.kind),.string t.text,.int .i64 t.pos,.int .i64 t.code]
theorem tA{W:World}{g:Nat}{a b c d:Value}{t:TypeId}(h:W.heap[g]?=some (.cells #[a,b,c,d] t (0,0))):W.cell? ⟨g,0,none⟩=some a∧W.cell? ⟨g,1,none⟩=some b∧W.cell? ⟨g,2,none⟩=some c∧W.cell? ⟨g,3,none⟩=some d∧∀i,W.frozen? ⟨g,i,none⟩=false:=by
 simp[World.cell?,World.frozen?,h]
theorem tI(w:World)(a b:Obj):Below w.heap.size w ((w.alloc a).alloc b):=(bA _ _).alloc (by simp) _
theorem RD{L:List Tok}{bp tb cp:Nat}{w:World}{k:Nat}{n:Int}{ps:Nat}(h:PS L bp tb cp w k n 0 ps)(hk:(cA L k).kind≠.b):
 Calls Tryz.prog 30 #[.pointer (some ⟨bp,0,none⟩)] w fun e w'=>e=.returned (sI (cA L k))∧Below w.heap.size w w':=by
 have hne:((kB (cA L k).kind).toList==[98])=false:=by
  cases h2:(cA L k).kind<;>first|exact absurd h2 hk|(rw[Lib.toList_data];decide)
 unfold sI
 have hlt:=h.lt
 have hlen:=h.len
 have hb1:=(Below.refl w.heap.size w).alloc (nR _) (.cells #[.string ⟨#[]⟩,.string ⟨#[]⟩,.int .i64 0,.int .i64 0] 82)
 obtain⟨W1,hW1⟩:∃W1,W1=w.alloc (.cells #[.string ⟨#[]⟩,.string ⟨#[]⟩,.int .i64 0,.int .i64 0] 82):=⟨_,rfl⟩
 rw[←hW1] at hb1
 have hP1:=h.below hb1
 obtain⟨y0,y1,y2,y3⟩:=hP1.tokens
 obtain⟨x0,x1,x2,x3,x4,xf⟩:=hP1.cells
 have hs1:W1.heap.size=w.heap.size+1:=by rw[hW1];simp
 have hb2:=(Below.refl W1.heap.size W1).alloc (nR _) (.cells #[.string ⟨#[]⟩,.string ⟨#[]⟩,.int .i64 0,.int .i64 0] 82)
 obtain⟨z0,z1,z2,z3⟩:=(hP1.below hb2).tokens
 obtain⟨v0,v1,v2,v3,v4,vf⟩:=(hP1.below hb2).cells
 have hb3:=((Below.refl W1.heap.size W1).drew).alloc (nR _) (.cells #[.string ⟨#[]⟩,.string ⟨#[]⟩,.int .i64 0,.int .i64 0] 82)
 obtain⟨s0,s1,s2,s3⟩:=(hP1.below hb3).tokens
 obtain⟨t0,t1,t2,t3,t4,tf⟩:=(hP1.below hb3).cells
 have hb4:=(Below.refl W1.heap.size W1).alloc (nR _) (.cells #[.string (kB (cA L k).kind),.string (cA L k).text,.int .i64 (cA L k).pos,.int .i64 (cA L k).code] 82)
 obtain⟨r0,r1,r2,r3,r4,rf⟩:=(hP1.below hb4).cells
 have hq:(W1.alloc (.cells #[.string (kB (cA L k).kind),.string (cA L k).text,.int .i64 (cA L k).pos,.int .i64 (cA L k).code] 82)).heap[w.heap.size]?=some (.cells #[.string ⟨#[]⟩,.string ⟨#[]⟩,.int .i64 0,.int .i64 0] 82 (0,0)):=by
  rw[hb4.block _ (by omega),hW1];exact heap_alloc_new _ _
 obtain⟨q0,q1,q2,q3,qf⟩:=tA hq
 have HX:=aA hW1
 have HB:=aA hb1
 have HP:=aA hP1
 have HS:=aA hs1
 clear hW1 hb1 hP1 hb2 hb3 hb4 h hs1 hq
 generalize kB (cA L k).kind=K0 at *
 generalize (cA L k).text=K1 at *
 generalize (cA L k).pos=K2 at *
 generalize (cA L k).code=K3 at *
 generalize L.length=LL at *
 go_enter Tryz.func30,Tryz.ntmps30
 go_wp2_with fail
 rw[←HX.out]
 go_region
 go_wp2
 refine bodyPost_ret (v:=.agg #[.string K0,.string K1,.int .i64 K2,.int .i64 K3]) (by simp[results,Tryz.results30,go_sem,q0,q1,q2,q3]) rfl ?_
 have hsz:w.heap.size≤W1.heap.size:=by have:=HS.out;omega
 exact⟨rfl,(((((HB.out.alloc hsz _).setCell (nR _) _).setCell (nR _) _).setCell (nR _) _).setCell (nR _) _).drew⟩
theorem QL{L:List Tok}{bp tb cp:Nat}{w:World}{k:Nat}{n:Int}{ps:Nat}{cd:Nat}(h:PS L bp tb cp w k n cd ps)(hc:0<cd):
 Calls Tryz.prog 30 #[.pointer (some ⟨bp,0,none⟩)] w fun e w'=>e=.returned vP∧Below w.heap.size w w':=by
 obtain⟨bb,hne⟩:∃bb,((kB (cA L k).kind).toList==[98])=bb:=⟨_,rfl⟩
 have hcz:decide ((0:Int)<cd)=true:=by simp;omega
 unfold vP
 have hlt:=h.lt
 have hlen:=h.len
 have hb1:=(Below.refl w.heap.size w).alloc (nR _) (.cells #[.string ⟨#[]⟩,.string ⟨#[]⟩,.int .i64 0,.int .i64 0] 82)
 obtain⟨W1,hW1⟩:∃W1,W1=w.alloc (.cells #[.string ⟨#[]⟩,.string ⟨#[]⟩,.int .i64 0,.int .i64 0] 82):=⟨_,rfl⟩
 rw[←hW1] at hb1
 have hP1:=h.below hb1
 obtain⟨y0,y1,y2,y3⟩:=hP1.tokens
 obtain⟨x0,x1,x2,x3,x4,xf⟩:=hP1.cells
 have hs1:W1.heap.size=w.heap.size+1:=by rw[hW1];simp
 have hb2:=(Below.refl W1.heap.size W1).alloc (nR _) (.cells #[.string ⟨#[]⟩,.string ⟨#[]⟩,.int .i64 0,.int .i64 0] 82)
 obtain⟨z0,z1,z2,z3⟩:=(hP1.below hb2).tokens
 obtain⟨v0,v1,v2,v3,v4,vf⟩:=(hP1.below hb2).cells
 have hb3:=((Below.refl W1.heap.size W1).drew).alloc (nR _) (.cells #[.string ⟨#[]⟩,.string ⟨#[]⟩,.int .i64 0,.int .i64 0] 82)
 obtain⟨s0,s1,s2,s3⟩:=(hP1.below hb3).tokens
 obtain⟨t0,t1,t2,t3,t4,tf⟩:=(hP1.below hb3).cells
 have hb4:=(Below.refl W1.heap.size W1).alloc (nR _) (.cells #[.string (kB (cA L k).kind),.string (cA L k).text,.int .i64 (cA L k).pos,.int .i64 (cA L k).code] 82)
 obtain⟨r0,r1,r2,r3,r4,rf⟩:=(hP1.below hb4).cells
 have hq:(W1.alloc (.cells #[.string (kB (cA L k).kind),.string (cA L k).text,.int .i64 (cA L k).pos,.int .i64 (cA L k).code] 82)).heap[w.heap.size]?=some (.cells #[.string ⟨#[]⟩,.string ⟨#[]⟩,.int .i64 0,.int .i64 0] 82 (0,0)):=by
  rw[hb4.block _ (by omega),hW1];exact heap_alloc_new _ _
 obtain⟨q0,q1,q2,q3,qf⟩:=tA hq
 have HF:=aA (fun W (hW:Below W1.heap.size W1 W) c a=>UI (hP1.below hW) hc c a)
 have HX:=aA hW1
 have HB:=aA hb1
 have HP:=aA hP1
 have HS:=aA hs1
 clear hW1 hb1 hP1 hb2 hb3 hb4 h hs1 hq
 generalize kB (cA L k).kind=K0 at *
 generalize (cA L k).text=K1 at *
 generalize (cA L k).pos=K2 at *
 generalize (cA L k).code=K3 at *
 generalize L.length=LL at *
 go_enter Tryz.func30,Tryz.ntmps30
 go_wp2_with fail
 rw[←HX.out]
 go_region
 have hsz:w.heap.size≤W1.heap.size:=by have:=HS.out;omega
 cases bb
 ·go_wp2
  refine bodyPost_ret (v:=.agg #[.string ⟨#[120]⟩,.string ⟨#[]⟩,.int .i64 0,.int .i64 0]) (by simp[results,Tryz.results30,go_sem,q0,q1,q2,q3]) rfl ?_
  exact⟨rfl,(((((HB.out.alloc hsz _).setCell (nR _) _).setCell (nR _) _).setCell (nR _) _).setCell (nR _) _).drew⟩
 ·go_wp2_with (go_at_call 62;refine(HF.out _ ?_ _ _).mono ?_;(·exact((Below.refl W1.heap.size W1).alloc (nR _) _).drew);rintro e w' ⟨rfl,rfl⟩)
  refine bodyPost_ret (v:=.agg #[.string ⟨#[120]⟩,.string ⟨#[]⟩,.int .i64 0,.int .i64 0]) (by simp[results,Tryz.results30,go_sem,q0,q1,q2,q3]) rfl ?_
  exact⟨rfl,(((((HB.out.alloc hsz _).setCell (nR _) _).setCell (nR _) _).setCell (nR _) _).setCell (nR _) _).drew⟩
theorem oW{L:List Tok}{bp tb cp:Nat}{w:World}{k:Nat}{n:Int}{ps:Nat}(h:PS L bp tb cp w k n 0 ps)(hk:(cA L k).kind=.b):
 Calls Tryz.prog 30 #[.pointer (some ⟨bp,0,none⟩)] w fun e w'=>e=.returned vP∧PS L bp tb cp w' k n (cA L k).code (cA L k).pos∧BelX w.heap.size bp w w':=by
 have hne:((kB (cA L k).kind).toList==[98])=true:=by
  rw[hk,Lib.toList_data];decide
 have hcz:decide ((0:Int)<(cA L k).code)=true:=by have:=h.code hk;simp;omega
 have hcp:0<(cA L k).code:=h.code hk
 have hbne:w.heap.size≠bp:=by have:=h.in;omega
 unfold vP
 have HP0:=aA h
 have hlt:=h.lt
 have hlen:=h.len
 have hb1:=(Below.refl w.heap.size w).alloc (nR _) (.cells #[.string ⟨#[]⟩,.string ⟨#[]⟩,.int .i64 0,.int .i64 0] 82)
 obtain⟨W1,hW1⟩:∃W1,W1=w.alloc (.cells #[.string ⟨#[]⟩,.string ⟨#[]⟩,.int .i64 0,.int .i64 0] 82):=⟨_,rfl⟩
 rw[←hW1] at hb1
 have hP1:=h.below hb1
 obtain⟨y0,y1,y2,y3⟩:=hP1.tokens
 obtain⟨x0,x1,x2,x3,x4,xf⟩:=hP1.cells
 have hs1:W1.heap.size=w.heap.size+1:=by rw[hW1];simp
 have hb2:=(Below.refl W1.heap.size W1).alloc (nR _) (.cells #[.string ⟨#[]⟩,.string ⟨#[]⟩,.int .i64 0,.int .i64 0] 82)
 obtain⟨z0,z1,z2,z3⟩:=(hP1.below hb2).tokens
 obtain⟨v0,v1,v2,v3,v4,vf⟩:=(hP1.below hb2).cells
 have hb3:=((Below.refl W1.heap.size W1).drew).alloc (nR _) (.cells #[.string ⟨#[]⟩,.string ⟨#[]⟩,.int .i64 0,.int .i64 0] 82)
 obtain⟨s0,s1,s2,s3⟩:=(hP1.below hb3).tokens
 obtain⟨t0,t1,t2,t3,t4,tf⟩:=(hP1.below hb3).cells
 have hb4:=(Below.refl W1.heap.size W1).alloc (nR _) (.cells #[.string (kB (cA L k).kind),.string (cA L k).text,.int .i64 (cA L k).pos,.int .i64 (cA L k).code] 82)
 obtain⟨r0,r1,r2,r3,r4,rf⟩:=(hP1.below hb4).cells
 have hq:(W1.alloc (.cells #[.string (kB (cA L k).kind),.string (cA L k).text,.int .i64 (cA L k).pos,.int .i64 (cA L k).code] 82)).heap[w.heap.size]?=some (.cells #[.string ⟨#[]⟩,.string ⟨#[]⟩,.int .i64 0,.int .i64 0] 82 (0,0)):=by
  rw[hb4.block _ (by omega),hW1];exact heap_alloc_new _ _
 obtain⟨q0,q1,q2,q3,qf⟩:=tA hq
 have HF:=aA (fun W (hW:Below W1.heap.size W1 W) c a=>oG (hP1.below hW) c a)
 have HX:=aA hW1
 have HB:=aA hb1
 have HP:=aA hP1
 have HS:=aA hs1
 clear hW1 hb1 hP1 hb2 hb3 hb4 h hs1 hq
 generalize kB (cA L k).kind=K0 at *
 generalize (cA L k).text=K1 at *
 generalize (cA L k).pos=K2 at *
 generalize (cA L k).code=K3 at *
 generalize L.length=LL at *
 go_enter Tryz.func30,Tryz.ntmps30
 go_wp2_with fail
 rw[←HX.out]
 go_region
 have hsz:w.heap.size≤W1.heap.size:=by have:=HS.out;omega
 go_wp2_with (go_at_call 62;refine(HF.out _ ?_ _ _).mono ?_;(·exact((Below.refl W1.heap.size W1).alloc (nR _) _).drew);rintro e W2 ⟨rfl,hP2,hB2⟩;obtain⟨p0,p1,p2,p3,p4,pf⟩:=hP2.cells;have q0':=(hB2.cell (p:=⟨w.heap.size,0,none⟩) (fB q0) hbne).trans q0;have q1':=(hB2.cell (p:=⟨w.heap.size,1,none⟩) (fB q0) hbne).trans q1;have q2':=(hB2.cell (p:=⟨w.heap.size,2,none⟩) (fB q0) hbne).trans q2;have q3':=(hB2.cell (p:=⟨w.heap.size,3,none⟩) (fB q0) hbne).trans q3;have qf':∀i,W2.frozen? ⟨w.heap.size,i,none⟩=false:=fun i=>(World.frozen?_of_block (a:=⟨w.heap.size,i,none⟩) (hB2.block _ (fB q0) hbne)).trans (qf i);have HQ:=aA (aI hP2 hB2);clear hP2 hB2)
 refine bodyPost_ret (v:=.agg #[.string ⟨#[120]⟩,.string ⟨#[]⟩,.int .i64 0,.int .i64 0]) (by simp[results,Tryz.results30,go_sem,q0',q1',q2',q3']) rfl ?_
 obtain⟨hP2,hB2⟩:=HQ.out
 have hB0:Below w.heap.size w ((W1.alloc (.cells #[.string K0,.string K1,.int .i64 K2,.int .i64 K3] 82)).drew):=(HB.out.alloc hsz _).drew
 have hB3:BelX w.heap.size bp w W2:=(Below.x hB0 bp (nR _)).trans ⟨hB2.os,hB2.tape,hB2.output,hB2.size,fun k hk hx=>hB2.block k (Nat.lt_of_lt_of_le hk hB0.size) hx⟩
 have hB4:=(((hB3.setCell (p:=⟨w.heap.size,0,none⟩) (.inl (nR _)) (.string ⟨#[120]⟩)).setCell (p:=⟨w.heap.size,1,none⟩) (.inl (nR _)) (.string ⟨#[]⟩)).setCell (p:=⟨w.heap.size,2,none⟩) (.inl (nR _)) (.int .i64 0)).setCell (p:=⟨w.heap.size,3,none⟩) (.inl (nR _)) (.int .i64 0)
 refine⟨rfl,?_,hB4⟩
 refine HP0.out.turn hB4 HP0.out.lt ?_
 rw[Below.heap_setCell _ _ _ _ (fun e=>hbne e.symm),Below.heap_setCell _ _ _ _ (fun e=>hbne e.symm),Below.heap_setCell _ _ _ _ (fun e=>hbne e.symm),Below.heap_setCell _ _ _ _ (fun e=>hbne e.symm)]
 exact hP2.blk
theorem ME{B:Nat}{a w:World}(h:Below B a w):∀n,Below B a (w.drewN n):=fun _=>⟨h.os,h.tape,h.output,h.size,h.block⟩
theorem PS.stepped{L:List Tok}{bp tb cp:Nat}{w:World}{k:Nat}{n:Int}{cd ps:Nat}(h:PS L bp tb cp w k n cd ps)(hk:k+1<L.length)(q:Nat):
 PS L bp tb cp ((w.drewN q).setCell ⟨bp,1,none⟩ (.int .i64 ((k:Int)+1))) (k+1) n cd ps∧BelX w.heap.size bp w ((w.drewN q).setCell ⟨bp,1,none⟩ (.int .i64 ((k:Int)+1))):=by
 have hB:BelX w.heap.size bp w ((w.drewN q).setCell ⟨bp,1,none⟩ (.int .i64 ((k:Int)+1))):=(Below.x (ME (Below.refl w.heap.size w) q) bp (nR _)).setCell (p:=⟨bp,1,none⟩) (.inr rfl) _
 refine⟨h.turn hB hk ?_,hB⟩
 rw[LA (w:=w.drewN q) h.blk _]
 simp
theorem BelX.then{B B' x:Nat}{a b c:World}(h:BelX B x a b)(h':BelX B' x b c)(hB:B≤B'):BelX B x a c:=⟨h'.os.trans h.os,h'.tape.trans h.tape,h'.output.trans h.output,Nat.le_trans h.size h'.size,fun k hk hx=>(h'.block k (by omega) hx).trans (h.block k hk hx)⟩
theorem SD{L:List Tok}{bp tb cp:Nat}{w:World}{k:Nat}{n:Nat}(hh:POk L bp tb cp w k n):
 Calls Tryz.prog 110 #[.pointer (some ⟨bp,0,none⟩)] w fun e w'=>e=.returned (.tuple #[])∧PSt L bp tb cp w' (pA L k n) (fun _=>True)∧BelX w.heap.size bp w w':=by
 obtain⟨h,h0,hn⟩:=hh
 have HN:=aA hn
 clear hn
 obtain⟨x0,x1,x2,x3,x4,xf⟩:=h.cells
 have hlt:=h.lt
 have hlen:=h.len
 have HP:=aA h
 have hw1:IntKind.i64.wrap ((k:Int)+1)=(k:Int)+1:=by unfold IntKind.wrap;simp[IntKind.bits,IntKind.signed];omega
 by_cases hk:k+1<L.length
 ·have hnk:jF L k=k+1:=by unfold jF;rw[if_pos hk]
  have hki:(k:Int)+1<(L.length:Int):=by omega
  have HT:=aA (fun q=>h.stepped hk q)
  by_cases hb:(cA L (k+1)).kind=.b
  ·have HR:Hid (pA L k n=.bad (cA L (k+1)).code (cA L (k+1)).pos):=by show _=_;unfold pA;rw[hnk,if_pos hb]
   have HS:=aA (fun q=>oW (h.stepped hk q).1 hb)
   have hcp:=(h.stepped hk 0).1.code hb
   clear hb hnk h
   go_enter Tryz.func110,Tryz.ntmps110
   go_wp2_with fail
   go_quiet (fail)
   go_wp2_with (go_at_call 30;refine(HS.out _).mono ?_;rintro e W2 ⟨rfl,hP2,hB2⟩;have HQ:=aA (aI hP2 hB2);clear hP2 hB2)
   go_end0
   refine⟨rfl,?_,(HT.out _).2.then HQ.out.2 (HT.out _).2.size⟩
   rw[HR.out];exact⟨hcp,_,_,HQ.out.1⟩
  ·have HR:Hid (pA L k n=.ok () (k+1) n):=by show _=_;unfold pA;rw[hnk,if_neg hb]
   have HS:=aA (fun q=>RD (h.stepped hk q).1 hb)
   have HBb:=aA hb
   clear hb hnk h
   go_enter Tryz.func110,Tryz.ntmps110
   go_wp2_with fail
   go_quiet (fail)
   go_wp2_with (go_at_call 30;refine(HS.out _).mono ?_;rintro e W2 ⟨rfl,hB2⟩;have HQ:=aA hB2;clear hB2)
   go_end0
   refine⟨rfl,?_,(HT.out _).2.then (Below.x HQ.out bp (nR _)) (HT.out _).2.size⟩
   rw[HR.out];exact⟨⟨(HT.out _).1.below HQ.out,HBb.out,HN.out⟩,trivial⟩
 ·have hnk:jF L k=k:=by unfold jF;rw[if_neg hk]
  have hki:¬((k:Int)+1<(L.length:Int)):=by omega
  have hkd:decide ((k:Int)+1<(L.length:Int))=false:=by simp;omega
  have HR:Hid (pA L k n=.ok () k n):=by show _=_;unfold pA;rw[hnk,if_neg h0]
  have HS:=aA (fun q=>RD (h.below (ME (Below.refl _ _) q)) h0)
  have HBb:=aA h0
  clear hnk h h0
  go_enter Tryz.func110,Tryz.ntmps110
  go_wp2_with fail
  go_quiet (fail)
  go_wp2_with (go_at_call 30;refine(HS.out _).mono ?_;rintro e W2 ⟨rfl,hB2⟩;have HQ:=aA hB2;clear hB2)
  go_end0
  have hb:=ME (Below.refl w.heap.size w)
  have hB:Below w.heap.size w W2:=⟨HQ.out.os,HQ.out.tape,HQ.out.output,HQ.out.size,fun q hq=>HQ.out.block q hq⟩
  refine⟨rfl,?_,Below.x hB bp (nR _)⟩
  rw[HR.out];exact⟨⟨HP.out.below hB,HBb.out,HN.out⟩,trivial⟩
theorem DR{L:List Tok}{bp tb cp:Nat}{w:World}{k:Nat}{n:Int}{cd ps:Nat}(h:PS L bp tb cp w k n cd ps)(hc:0<cd):
 Calls Tryz.prog 110 #[.pointer (some ⟨bp,0,none⟩)] w fun e w'=>e=.returned (.tuple #[])∧(∃k',PS L bp tb cp w' k' n cd ps)∧BelX w.heap.size bp w w':=by
 obtain⟨x0,x1,x2,x3,x4,xf⟩:=h.cells
 have hlt:=h.lt
 have hlen:=h.len
 have HP:=aA h
 have hw1:IntKind.i64.wrap ((k:Int)+1)=(k:Int)+1:=by unfold IntKind.wrap;simp[IntKind.bits,IntKind.signed];omega
 by_cases hk:k+1<L.length
 ·have hki:(k:Int)+1<(L.length:Int):=by omega
  have HT:=aA (fun q=>h.stepped hk q)
  have HS:=aA (fun q=>QL (h.stepped hk q).1 hc)
  clear h
  go_enter Tryz.func110,Tryz.ntmps110
  go_wp2_with fail
  go_quiet (fail)
  go_wp2_with (go_at_call 30;refine(HS.out _).mono ?_;rintro e W2 ⟨rfl,hB2⟩;have HQ:=aA hB2;clear hB2)
  go_end0
  exact⟨rfl,⟨_,(HT.out _).1.below HQ.out⟩,(HT.out _).2.then (Below.x HQ.out bp (nR _)) (HT.out _).2.size⟩
 ·have hki:¬((k:Int)+1<(L.length:Int)):=by omega
  have hkd:decide ((k:Int)+1<(L.length:Int))=false:=by simp;omega
  have HS:=aA (fun q=>QL (h.below (ME (Below.refl _ _) q)) hc)
  clear h
  go_enter Tryz.func110,Tryz.ntmps110
  go_wp2_with fail
  go_quiet (fail)
  go_wp2_with (go_at_call 30;refine(HS.out _).mono ?_;rintro e W2 ⟨rfl,hB2⟩;have HQ:=aA hB2;clear hB2)
  go_end0
  have hB:Below w.heap.size w W2:=⟨HQ.out.os,HQ.out.tape,HQ.out.output,HQ.out.size,fun q hq=>HQ.out.block q hq⟩
  exact⟨rfl,⟨_,HP.out.below hB⟩,Below.x hB bp (nR _)⟩
end Go.Proofs.YtehbinobohjadaaGreatDoor

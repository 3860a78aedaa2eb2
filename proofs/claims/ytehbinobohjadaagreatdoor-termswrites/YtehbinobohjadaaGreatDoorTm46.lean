import Derived.Test.YtehbinobohjadaaGreatDoorTm00
import Derived.Test.YtehbinobohjadaaGreatDoorTm40
import Derived.Test.YtehbinobohjadaaGreatDoorTm45
import Derived.Deep.RegionHeld3
set_option maxHeartbeats 20000000
set_option maxRecDepth 20000
namespace Go.Proofs.YtehbinobohjadaaGreatDoor
open Go.RowKit
set_option linter.unusedSectionVars false
variable [Inhabited TP]
def XU:Oper:={dst:=some 4,op:=Op.move (Operand.tmp 0),type:=38,pos:= "terms.go:49",after:=#[],guard:=none}
def YU:Oper:={dst:=some 5,op:=Op.nilCheck (Operand.tmp 4),type:=0,pos:= "terms.go:49",after:=#[{on:=0,ground:=Ground.data}],guard:=none}
def ZU:Oper:={dst:=some 6,op:=Op.fieldAddr 47 (Operand.tmp 5) 0,type:=0,pos:= "terms.go:49",after:=#[{on:=1,ground:=Ground.data}],guard:=none}
def aV:Oper:={dst:=some 7,op:=Op.load 9 (Operand.tmp 6),type:=9,pos:= "terms.go:49",after:=#[{on:=2,ground:=Ground.data}],guard:=none}
def bV:Oper:={dst:=some 8,op:=Op.move (Operand.tmp 0),type:=38,pos:= "terms.go:49",after:=#[],guard:=none}
def cV:Oper:={dst:=some 9,op:=Op.nilCheck (Operand.tmp 8),type:=0,pos:= "terms.go:49",after:=#[{on:=4,ground:=Ground.data}],guard:=none}
def dV:Oper:={dst:=some 10,op:=Op.fieldAddr 47 (Operand.tmp 9) 1,type:=0,pos:= "terms.go:49",after:=#[{on:=5,ground:=Ground.data}],guard:=none}
def eV:Oper:={dst:=some 11,op:=Op.load 9 (Operand.tmp 10),type:=9,pos:= "terms.go:49",after:=#[{on:=6,ground:=Ground.data}],guard:=none}
def fV:Oper:={dst:=some 12,op:=Op.move (Operand.tmp 0),type:=38,pos:= "terms.go:49",after:=#[],guard:=none}
def gV:Oper:={dst:=some 13,op:=Op.nilCheck (Operand.tmp 12),type:=0,pos:= "terms.go:49",after:=#[{on:=8,ground:=Ground.data}],guard:=none}
def DQ:Oper:={dst:=some 14,op:=Op.fieldAddr 47 (Operand.tmp 13) 2,type:=0,pos:= "terms.go:49",after:=#[{on:=9,ground:=Ground.data}],guard:=none}
def EQ:Oper:={dst:=some 15,op:=Op.load 3 (Operand.tmp 14),type:=3,pos:= "terms.go:49",after:=#[{on:=10,ground:=Ground.data}],guard:=none}
def FQ:Oper:={dst:=some 16,op:=Op.move (Operand.tmp 0),type:=38,pos:= "terms.go:49",after:=#[],guard:=none}
def GQ:Oper:={dst:=some 17,op:=Op.nilCheck (Operand.tmp 16),type:=0,pos:= "terms.go:49",after:=#[{on:=12,ground:=Ground.data}],guard:=none}
def IQ:Oper:={dst:=some 18,op:=Op.fieldAddr 47 (Operand.tmp 17) 3,type:=0,pos:= "terms.go:49",after:=#[{on:=13,ground:=Ground.data}],guard:=none}
def JQ:Oper:={dst:=some 19,op:=Op.load 4 (Operand.tmp 18),type:=4,pos:= "terms.go:49",after:=#[{on:=14,ground:=Ground.data}],guard:=none}
def KQ:Oper:={dst:=some 20,op:=Op.move (Operand.tmp 0),type:=38,pos:= "terms.go:49",after:=#[],guard:=none}
def LQ:Oper:={dst:=some 21,op:=Op.nilCheck (Operand.tmp 20),type:=0,pos:= "terms.go:49",after:=#[{on:=16,ground:=Ground.data}],guard:=none}
def MQ:Oper:={dst:=some 22,op:=Op.fieldAddr 47 (Operand.tmp 21) 4,type:=0,pos:= "terms.go:49",after:=#[{on:=17,ground:=Ground.data}],guard:=none}
def NQ:Oper:={dst:=some 23,op:=Op.load 9 (Operand.tmp 22),type:=9,pos:= "terms.go:49",after:=#[{on:=18,ground:=Ground.data}],guard:=none}
def OQ:Oper:={dst:=some 24,op:=Op.move (Operand.tmp 0),type:=38,pos:= "terms.go:49",after:=#[],guard:=none}
def PQ:Oper:={dst:=some 25,op:=Op.nilCheck (Operand.tmp 24),type:=0,pos:= "terms.go:49",after:=#[{on:=20,ground:=Ground.data}],guard:=none}
def QQ:Oper:={dst:=some 26,op:=Op.fieldAddr 47 (Operand.tmp 25) 5,type:=0,pos:= "terms.go:49",after:=#[{on:=21,ground:=Ground.data}],guard:=none}
def RQ:Oper:={dst:=some 27,op:=Op.load 44 (Operand.tmp 26),type:=44,pos:= "terms.go:49",after:=#[{on:=22,ground:=Ground.data}],guard:=none}
def DL:Oper:={dst:=some 28,op:=Op.call {callee:=Callee.value (Operand.func 26),args:=#[Operand.tmp 27],argTypes:=#[44]},type:=25,pos:= "terms.go:49",after:=#[{on:=23,ground:=Ground.data}],guard:=none}
def SQ:Oper:={dst:=some 29,op:=Op.move (Operand.tmp 0),type:=38,pos:= "terms.go:49",after:=#[],guard:=none}
def TQ:Oper:={dst:=some 30,op:=Op.nilCheck (Operand.tmp 29),type:=0,pos:= "terms.go:49",after:=#[{on:=25,ground:=Ground.data}],guard:=none}
def UQ:Oper:={dst:=some 31,op:=Op.fieldAddr 47 (Operand.tmp 30) 6,type:=0,pos:= "terms.go:49",after:=#[{on:=26,ground:=Ground.data}],guard:=none}
def VQ:Oper:={dst:=some 32,op:=Op.load 44 (Operand.tmp 31),type:=44,pos:= "terms.go:49",after:=#[{on:=27,ground:=Ground.data}],guard:=none}
def EL:Oper:={dst:=some 33,op:=Op.call {callee:=Callee.value (Operand.func 26),args:=#[Operand.tmp 32],argTypes:=#[44]},type:=25,pos:= "terms.go:49",after:=#[{on:=28,ground:=Ground.data},{on:=24,ground:=Ground.chain}],guard:=none}
def WQ:Oper:={dst:=some 34,op:=Op.move (Operand.tmp 0),type:=38,pos:= "terms.go:49",after:=#[],guard:=none}
def XQ:Oper:={dst:=some 35,op:=Op.nilCheck (Operand.tmp 34),type:=0,pos:= "terms.go:49",after:=#[{on:=30,ground:=Ground.data}],guard:=none}
def YQ:Oper:={dst:=some 36,op:=Op.fieldAddr 47 (Operand.tmp 35) 7,type:=0,pos:= "terms.go:49",after:=#[{on:=31,ground:=Ground.data}],guard:=none}
def ZQ:Oper:={dst:=some 37,op:=Op.load 3 (Operand.tmp 36),type:=3,pos:= "terms.go:49",after:=#[{on:=32,ground:=Ground.data}],guard:=none}
def aR:Oper:={dst:=some 38,op:=Op.move (Operand.tmp 0),type:=38,pos:= "terms.go:49",after:=#[],guard:=none}
def bR:Oper:={dst:=some 39,op:=Op.nilCheck (Operand.tmp 38),type:=0,pos:= "terms.go:49",after:=#[{on:=34,ground:=Ground.data}],guard:=none}
def cR:Oper:={dst:=some 40,op:=Op.fieldAddr 47 (Operand.tmp 39) 10,type:=0,pos:= "terms.go:49",after:=#[{on:=35,ground:=Ground.data}],guard:=none}
def dR:Oper:={dst:=some 41,op:=Op.load 9 (Operand.tmp 40),type:=9,pos:= "terms.go:49",after:=#[{on:=36,ground:=Ground.data}],guard:=none}
def eR:Oper:={dst:=some 42,op:=Op.build 30 #[(0,Operand.tmp 7),(1,Operand.tmp 11),(2,Operand.tmp 15),(3,Operand.tmp 19),(4,Operand.tmp 23),(5,Operand.tmp 28),(6,Operand.tmp 33),(7,Operand.tmp 37),(10,Operand.tmp 41)],type:=30,pos:= "terms.go:49",after:=#[{on:=3,ground:=Ground.data},{on:=7,ground:=Ground.data},{on:=11,ground:=Ground.data},{on:=15,ground:=Ground.data},{on:=19,ground:=Ground.data},{on:=24,ground:=Ground.data},{on:=29,ground:=Ground.data},{on:=33,ground:=Ground.data},{on:=37,ground:=Ground.data}],guard:=none}
def NJ:Oper:={dst:=some 3,op:=Op.alloc 30,type:=0,pos:= "terms.go:49",after:=#[],guard:=none}
def eU:Oper:={dst:=none,op:=Op.store 30 (Operand.tmp 3) (Operand.tmp 42),type:=0,pos:= "terms.go:49",after:=#[{on:=39,ground:=Ground.data},{on:=38,ground:=Ground.data},{on:=29,ground:=Ground.chain},{on:=0,ground:=Ground.phase},{on:=1,ground:=Ground.phase},{on:=2,ground:=Ground.phase},{on:=3,ground:=Ground.phase},{on:=4,ground:=Ground.phase},{on:=5,ground:=Ground.phase},{on:=6,ground:=Ground.phase},{on:=7,ground:=Ground.phase},{on:=8,ground:=Ground.phase},{on:=9,ground:=Ground.phase},{on:=10,ground:=Ground.phase},{on:=11,ground:=Ground.phase},{on:=12,ground:=Ground.phase},{on:=13,ground:=Ground.phase},{on:=14,ground:=Ground.phase},{on:=15,ground:=Ground.phase},{on:=16,ground:=Ground.phase},{on:=17,ground:=Ground.phase},{on:=18,ground:=Ground.phase},{on:=19,ground:=Ground.phase},{on:=20,ground:=Ground.phase},{on:=21,ground:=Ground.phase},{on:=22,ground:=Ground.phase},{on:=23,ground:=Ground.phase},{on:=24,ground:=Ground.phase},{on:=25,ground:=Ground.phase},{on:=26,ground:=Ground.phase},{on:=27,ground:=Ground.phase},{on:=28,ground:=Ground.phase},{on:=29,ground:=Ground.phase},{on:=30,ground:=Ground.phase},{on:=31,ground:=Ground.phase},{on:=32,ground:=Ground.phase},{on:=33,ground:=Ground.phase},{on:=34,ground:=Ground.phase},{on:=35,ground:=Ground.phase},{on:=36,ground:=Ground.phase},{on:=37,ground:=Ground.phase},{on:=38,ground:=Ground.phase},{on:=39,ground:=Ground.phase}],guard:=none}
def bE:Array Oper:=#[XU,YU,ZU,aV,bV,cV,dV,eV,fV,gV,DQ,EQ,FQ,GQ,IQ,JQ,KQ,LQ,MQ,NQ,OQ,PQ,QQ,RQ,DL,SQ,TQ,UQ,VQ,EL,WQ,XQ,YQ,ZQ,aR,bR,cR,dR,eR,NJ,eU]
abbrev yY:Bool:=true
abbrev nN:Bool:=false
def AtP(a:Act)(l:List (Nat×Value)):Prop:=a.tmps.size=69∧a.defers=[]∧∀k v,(k,v)∈l→a.tmps[k]?=some v
theorem AtP.put{a:Act}{l:List (Nat×Value)}(h:AtP a l)(k:Nat)(v:Value)(hk:k<69)(hn:(l.map (·.1)).all (fun j=>j !=k)=true):AtP (a.put (some k) v) ((k,v)::l):=by
 refine⟨by show (a.tmps.setIfInBounds k v).size=69;rw[Array.size_setIfInBounds];exact h.1,h.2.1,fun j u hj=>?_⟩
 show (a.tmps.setIfInBounds k v)[j]?=some u
 rcases List.mem_cons.1 hj with e|hj
 ·injection e with e1 e2
  subst e1 e2
  rw[Array.getElem?_setIfInBounds_self_of_lt (by rw[h.1];exact hk)]
 ·rw[List.all_eq_true] at hn
  have hjk:=hn j (List.mem_map.2 ⟨(j,u),hj,rfl⟩)
  rw[Array.getElem?_setIfInBounds_ne (fun e=>by simp[e] at hjk)]
  exact h.2.2 j u hj
theorem AtP.eval{a:Act}{l:List (Nat×Value)}(h:AtP a l){k:Nat}{v:Value}(hk:(k,v)∈l):a.eval (.tmp k)=v:=by
 have:=h.2.2 k v hk
 simp[Act.eval,this]
theorem AtP.less{a:Act}{l m:List (Nat×Value)}(h:AtP a l)(hm:∀p,p∈m→p∈l):AtP a m:=⟨h.1,h.2.1,fun k v hk=>h.2.2 k v (hm _ hk)⟩
theorem nJ{P:Program}{ops:Array Oper}{o:Oper}{a:Act}{w w':World}{K:Act→World→Prop}{Q:Exit→Act→World→Prop}{F:Prop}(hw:Region.wanted o (yielded ops a.tmps)=true){v:Value}(he:(execOp a.eval o).run P w=.ok (.value v) w')(h:K (a.put o.dst v) w'):if Region.wanted o (yielded ops a.tmps)=true then Oper.wp P o a w K Q else F:=by
 rw[if_pos hw]
 unfold Oper.wp
 rw[he]
 exact h
theorem aG{P:Program}{ops:Array Oper}{o:Oper}{a:Act}{w:World}{K:Act→World→Prop}{Q:Exit→Act→World→Prop}{F:Prop}(hw:Region.wanted o (yielded ops a.tmps)=true){f:FuncId}{args:Array Value}(he:(execOp a.eval o).run P w=.ok (.enter f args) w){R:Ending→World→Prop}(hc:Calls P f args w R)(h:∀e w',R e w'→∃v,e=.returned v∧K (a.put o.dst v) w'):if Region.wanted o (yielded ops a.tmps)=true then Oper.wp P o a w K Q else F:=by
 rw[if_pos hw]
 unfold Oper.wp
 rw[he]
 refine hc.mono ?_
 intro e w' hr
 obtain⟨v,rfl,hk⟩:=h e w' hr
 exact hk
theorem YL{P:Program}{ops:Array Oper}{o:Oper}{a:Act}{w:World}{K:Act→World→Prop}{Q:Exit→Act→World→Prop}{F:Prop}(hgd:o.guard=none)(ty:TypeId)(x y:Operand)(ho:o.op=.store ty x y)(g:Nat)(cells:Array Value)(hx:a.eval x=.pointer (some ⟨g,0,none⟩))(hy:a.eval y=.agg cells)(t:TypeId)(old:Array Value)(hg:w.heap[g]?=some (.cells old t (0,0)))(hi:(P.info? ty).map (·.size)=some cells.size)(hold:old.size=cells.size)(h1:cells.all (·.oneCell')=true)(h:K (a.put o.dst undef) (w.setRow g cells)):if Region.wanted o (yielded ops a.tmps)=true then Oper.wp P o a w K Q else F:=by
 have hw:Region.wanted o (yielded ops a.tmps)=true:=by simp[Region.wanted,hgd]
 rw[if_pos hw]
 exact wp_store_row ty x y ho g cells hx hy t old hg hi hold h1 h
theorem xI{P:Program}{o:Oper}{a:Act}{w:World}(t:TypeId)(parts:Array (Nat×Operand))(ho:o.op=.build t parts)(l:List (Nat×Value)){cells:Array Value}(hp:(parts.map fun (i,x)=>(i,a.eval x)).toList=l)(hb:P.built t l=some cells):(execOp a.eval o).run P w=.ok (.value (.agg cells)) w:=by
 subst hp
 unfold execOp
 rw[ho]
 simp only[Sem.run_bind,run_build w _ _ _ hb,Result.andThen_ok,Sem.run_pure]
theorem OL(xk xn:ByteArray)(xs:Int)(xp:Bool)(xh ck cw:ByteArray)(cn:Int)(ka:Option Addr)(kl kc:Nat)(sk sw:ByteArray)(sn:Int)(ma:Option Addr)(ml mc:Nat)(xw:Int)(xe:ByteArray):Tryz.prog.built 30 [(0,.string xk),(1,.string xn),(2,.int .i64 xs),(3,.bool xp),(4,.string xh),(5,.agg #[.string ck,.string cw,.int .i64 cn,.slice ka kl kc]),(6,.agg #[.string sk,.string sw,.int .i64 sn,.slice ma ml mc]),(7,.int .i64 xw),(10,.string xe)]=some (oS xk xn xs xp xh ck cw cn (.slice ka kl kc) sk sw sn (.slice ma ml mc) xw xe):=by kernel_rfl
theorem iK(xk xn:ByteArray)(xs:Int)(xp:Bool)(xh ck cw:ByteArray)(cn:Int)(ka:Option Addr)(kl kc:Nat)(sk sw:ByteArray)(sn:Int)(ma:Option Addr)(ml mc:Nat)(xw:Int)(xe:ByteArray):(oS xk xn xs xp xh ck cw cn (.slice ka kl kc) sk sw sn (.slice ma ml mc) xw xe).size=19∧(oS xk xn xs xp xh ck cw cn (.slice ka kl kc) sk sw sn (.slice ma ml mc) xw xe).all (·.oneCell')=true:=by
 unfold oS
 exact⟨rfl,by simp[Value.oneCell']⟩
theorem infoPs:(Tryz.prog.info? 30).map (·.size)=some 19:=by kernel_rfl
theorem Rc.row8{w V:World}(h:Rc w V){g:Nat}(hg:w.heap.size≤g)(cs:Array Value):Rc w (V.setRow g cs):=⟨h.os,h.tape,h.output,by rw[AC];exact h.size,fun k hk=>(setRow_other _ _ _ _ (by omega)).trans (h.block k hk)⟩
structure PgA(W:World)(g:Nat)(x:SentT)(ka ma:Option Addr)(kc mc:Nat)(wx:World):Prop where
 rc:Rc W wx
 ge:W.heap.size≤g
 bk:wx.heap[g]?=some (.cells (oS x.kind x.name x.strength x.positive x.head x.cond.kind x.cond.word x.cond.num (.slice ka x.cond.kids.length kc) x.sum.kind x.sum.word x.sum.num (.slice ma x.sum.kids.length mc) x.way x.els) 30 (0,0))
 nc:NT wx (fun k=>k<wx.heap.size∧k≠g∧W.heap.size≤k) ka kc x.cond
 ns:NT wx (fun k=>k<wx.heap.size∧k≠g∧W.heap.size≤k) ma mc x.sum
def sW(t:Tn)(V:World)(e:Ending)(w':World):Prop:=(∃sa sc,e=.returned (.agg #[.string t.kind,.string t.word,.int .i64 t.num,.slice sa t.kids.length sc])∧NT w' (fun k=>V.heap.size≤k∧k<w'.heap.size) sa sc t)∧Below V.heap.size V w'
structure PG(W:World)(x:SentT)(b o:Nat)(ca sa:Option Addr)(cc sc:Nat):Prop where
 cl:∀V,Rc W V→V.cell? ⟨b,o,none⟩=some (.string x.kind)∧V.cell? ⟨b,o+1,none⟩=some (.string x.name)∧V.cell? ⟨b,o+2,none⟩=some (.int .i64 x.strength)∧V.cell? ⟨b,o+3,none⟩=some (.bool x.positive)∧V.cell? ⟨b,o+4,none⟩=some (.string x.head)∧V.cell? ⟨b,o+5,none⟩=some (.string x.cond.kind)∧V.cell? ⟨b,o+6,none⟩=some (.string x.cond.word)∧V.cell? ⟨b,o+7,none⟩=some (.int .i64 x.cond.num)∧V.cell? ⟨b,o+8,none⟩=some (.slice ca x.cond.kids.length cc)∧V.cell? ⟨b,o+9,none⟩=some (.string x.sum.kind)∧V.cell? ⟨b,o+10,none⟩=some (.string x.sum.word)∧V.cell? ⟨b,o+11,none⟩=some (.int .i64 x.sum.num)∧V.cell? ⟨b,o+12,none⟩=some (.slice sa x.sum.kids.length sc)∧V.cell? ⟨b,o+13,none⟩=some (.int .i64 x.way)∧V.cell? ⟨b,o+18,none⟩=some (.string x.els)
 co:∀V,Rc W V→Calls Tryz.prog 26 #[.agg #[.string x.cond.kind,.string x.cond.word,.int .i64 x.cond.num,.slice ca x.cond.kids.length cc]] V (sW x.cond V)
 su:∀V,Rc W V→Calls Tryz.prog 26 #[.agg #[.string x.sum.kind,.string x.sum.word,.int .i64 x.sum.num,.slice sa x.sum.kids.length sc]] V (sW x.sum V)
section
variable {Q:Exit→Act→World→Prop} {W:World} {x:SentT} {b o:Nat} {ca sa:Option Addr} {cc sc:Nat} {v2:Value}
def Nx(Q:Exit→Act→World→Prop)(W:World)(x:SentT)(b o:Nat)(v2:Value):Prop:=∀(a:Act) (V:World) (g:Nat) (ka ma:Option Addr) (kc mc:Nat),AtP a [(0,.pointer (some ⟨b,o,none⟩)),(2,v2),(3,.pointer (some ⟨g,0,none⟩))]→PgA W g x ka ma kc mc V→Q .normal a V
theorem ML(HQ:Nx Q W x b o v2){a:Act}{V:World}{g:Nat}{ka ma:Option Addr}{kc mc:Nat}(ha:AtP a [(42,.agg (oS x.kind x.name x.strength x.positive x.head x.cond.kind x.cond.word x.cond.num (.slice ka x.cond.kids.length kc) x.sum.kind x.sum.word x.sum.num (.slice ma x.sum.kids.length mc) x.way x.els)),(3,.pointer (some ⟨g,0,none⟩)),(0,.pointer (some ⟨b,o,none⟩)),(2,v2)])(hr:Rc W V)(hg:W.heap.size≤g)(hk:V.heap[g]?=some (.cells #[.string ⟨#[]⟩,.string ⟨#[]⟩,.int .i64 0,.bool false,.string ⟨#[]⟩,.string ⟨#[]⟩,.string ⟨#[]⟩,.int .i64 0,.slice none 0 0,.string ⟨#[]⟩,.string ⟨#[]⟩,.int .i64 0,.slice none 0 0,.int .i64 0,.slice none 0 0,.int .i64 0,.int .i64 0,.int .i64 0,.string ⟨#[]⟩] 30 (0,0)))
 (hA:NT V (fun k=>k<V.heap.size∧k≠g∧W.heap.size≤k) ka kc x.cond) (hB:NT V (fun k=>k<V.heap.size∧k≠g∧W.heap.size≤k) ma mc x.sum):wpAnyH Tryz.prog .any bE Q (Rc W) 1 #[yY,yY,yY,yY,yY,yY,yY,yY,yY,yY,yY,yY,yY,yY,yY,yY,yY,yY,yY,yY,yY,yY,yY,yY,yY,yY,yY,yY,yY,yY,yY,yY,yY,yY,yY,yY,yY,yY,yY,yY,nN] a V:=by
 refine wpAnyH_ready (rs:=[40]) (by kernel_rfl) (by simp) (AllReadyH.cons (o:=eU) rfl (fun K hK=>?_) AllReadyH.nil)
 refine YL rfl 30 (.tmp 3) (.tmp 42) rfl g (oS x.kind x.name x.strength x.positive x.head x.cond.kind x.cond.word x.cond.num (.slice ka x.cond.kids.length kc) x.sum.kind x.sum.word x.sum.num (.slice ma x.sum.kids.length mc) x.way x.els) (ha.eval (by simp)) (ha.eval (by simp)) 30 #[.string ⟨#[]⟩,.string ⟨#[]⟩,.int .i64 0,.bool false,.string ⟨#[]⟩,.string ⟨#[]⟩,.string ⟨#[]⟩,.int .i64 0,.slice none 0 0,.string ⟨#[]⟩,.string ⟨#[]⟩,.int .i64 0,.slice none 0 0,.int .i64 0,.slice none 0 0,.int .i64 0,.int .i64 0,.int .i64 0,.string ⟨#[]⟩] hk (infoPs.trans (by rw[(iK ..).1])) (by rw[(iK ..).1];rfl) (iK ..).2 ?_
 refine hK.out _ _ (hr.row8 hg _) (fun _=>wpAnyH_done (by kernel_rfl) (HQ _ _ g ka ma kc mc ?_ ⟨hr.row8 hg _,hg,setRow_heap _ _ _ _ _ _ hk,?_,?_⟩) _)
 ·exact ha.less (by simp)
 ·exact hA.step fun k hk=>⟨setRow_other _ _ _ _ hk.2.1,by rw[AC];exact hk.1,hk.2.1,hk.2.2⟩
 ·exact hB.step fun k hk=>⟨setRow_other _ _ _ _ hk.2.1,by rw[AC];exact hk.1,hk.2.1,hk.2.2⟩
def qS(Q:Exit→Act→World→Prop):Prop:=∀c (a:Act) (d:Option Tmp) (v:Value) (w:World),Q (.panic c) (a.put d v) w→Q (.panic c) a w
theorem kR(HP:qS Q){a:Act}{V:World}{ka ma:Option Addr}{kc mc:Nat}{fuel:Nat}{listed:Array Bool}(ha:AtP a [(28,.agg #[.string x.cond.kind,.string x.cond.word,.int .i64 x.cond.num,.slice ka x.cond.kids.length kc]),(33,.agg #[.string x.sum.kind,.string x.sum.word,.int .i64 x.sum.num,.slice ma x.sum.kids.length mc]),(7,.string x.kind),(11,.string x.name),(15,.int .i64 x.strength),(19,.bool x.positive),(23,.string x.head),(37,.int .i64 x.way),(41,.string x.els),(0,.pointer (some ⟨b,o,none⟩)),(2,v2)])(hf:Region.free .any bE listed 38=true)(hrd:(Region.ready .any bE listed).contains 38=true)(hr:Rc W V)(h:∀a,AtP a ((42,.agg (oS x.kind x.name x.strength x.positive x.head x.cond.kind x.cond.word x.cond.num (.slice ka x.cond.kids.length kc) x.sum.kind x.sum.word x.sum.num (.slice ma x.sum.kids.length mc) x.way x.els))::[(28,.agg #[.string x.cond.kind,.string x.cond.word,.int .i64 x.cond.num,.slice ka x.cond.kids.length kc]),(33,.agg #[.string x.sum.kind,.string x.sum.word,.int .i64 x.sum.num,.slice ma x.sum.kids.length mc]),(7,.string x.kind),(11,.string x.name),(15,.int .i64 x.strength),(19,.bool x.positive),(23,.string x.head),(37,.int .i64 x.way),(41,.string x.els),(0,.pointer (some ⟨b,o,none⟩)),(2,v2)])→wpAnyH Tryz.prog .any bE Q (Rc W) fuel (listed.setIfInBounds 38 true) a V):wpAnyH Tryz.prog .any bE Q (Rc W) (fuel+1) listed a V:=by
 refine wpAnyH_take (i:=38) (oi:=eR) (v:=.agg (oS x.kind x.name x.strength x.positive x.head x.cond.kind x.cond.word x.cond.num (.slice ka x.cond.kids.length kc) x.sum.kind x.sum.word x.sum.num (.slice ma x.sum.kids.length mc) x.way x.els)) rfl (by kernel_rfl) hf hrd (fun c a w=>HP c a _ _ w) (Or.inl ⟨rfl,fun w _=>?_⟩) hr (h _ (ha.put 42 _ (by omega) rfl))
 refine xI 30 _ rfl _ ?_ (OL x.kind x.name x.strength x.positive x.head x.cond.kind x.cond.word x.cond.num ka x.cond.kids.length kc x.sum.kind x.sum.word x.sum.num ma x.sum.kids.length mc x.way x.els)
 have e7:=ha.eval (k:=7) (v:=.string x.kind) (by simp)
 have e11:=ha.eval (k:=11) (v:=.string x.name) (by simp)
 have e15:=ha.eval (k:=15) (v:=.int .i64 x.strength) (by simp)
 have e19:=ha.eval (k:=19) (v:=.bool x.positive) (by simp)
 have e23:=ha.eval (k:=23) (v:=.string x.head) (by simp)
 have e28:=ha.eval (k:=28) (v:=.agg #[.string x.cond.kind,.string x.cond.word,.int .i64 x.cond.num,.slice ka x.cond.kids.length kc]) (by simp)
 have e33:=ha.eval (k:=33) (v:=.agg #[.string x.sum.kind,.string x.sum.word,.int .i64 x.sum.num,.slice ma x.sum.kids.length mc]) (by simp)
 have e37:=ha.eval (k:=37) (v:=.int .i64 x.way) (by simp)
 have e41:=ha.eval (k:=41) (v:=.string x.els) (by simp)
 simp[e7,e11,e15,e19,e23,e28,e33,e37,e41]
theorem eJ(V:World)(a:Act):(execOp a.eval NJ).run Tryz.prog V=.ok (.value (.pointer (some ⟨V.heap.size,0,none⟩))) (V.alloc (.cells #[.string ⟨#[]⟩,.string ⟨#[]⟩,.int .i64 0,.bool false,.string ⟨#[]⟩,.string ⟨#[]⟩,.string ⟨#[]⟩,.int .i64 0,.slice none 0 0,.string ⟨#[]⟩,.string ⟨#[]⟩,.int .i64 0,.slice none 0 0,.int .i64 0,.slice none 0 0,.int .i64 0,.int .i64 0,.int .i64 0,.string ⟨#[]⟩] 30)):=by
 unfold NJ
 go_simp
theorem iV(HP:qS Q)(HQ:Nx Q W x b o v2){a:Act}{V:World}{g:Nat}{ka ma:Option Addr}{kc mc:Nat}(ha:AtP a ((3,.pointer (some ⟨g,0,none⟩))::[(28,.agg #[.string x.cond.kind,.string x.cond.word,.int .i64 x.cond.num,.slice ka x.cond.kids.length kc]),(33,.agg #[.string x.sum.kind,.string x.sum.word,.int .i64 x.sum.num,.slice ma x.sum.kids.length mc]),(7,.string x.kind),(11,.string x.name),(15,.int .i64 x.strength),(19,.bool x.positive),(23,.string x.head),(37,.int .i64 x.way),(41,.string x.els),(0,.pointer (some ⟨b,o,none⟩)),(2,v2)]))(hr:Rc W V)(hg:W.heap.size≤g)(hk:V.heap[g]?=some (.cells #[.string ⟨#[]⟩,.string ⟨#[]⟩,.int .i64 0,.bool false,.string ⟨#[]⟩,.string ⟨#[]⟩,.string ⟨#[]⟩,.int .i64 0,.slice none 0 0,.string ⟨#[]⟩,.string ⟨#[]⟩,.int .i64 0,.slice none 0 0,.int .i64 0,.slice none 0 0,.int .i64 0,.int .i64 0,.int .i64 0,.string ⟨#[]⟩] 30 (0,0)))
 (hA:NT V (fun k=>k<V.heap.size∧k≠g∧W.heap.size≤k) ka kc x.cond) (hB:NT V (fun k=>k<V.heap.size∧k≠g∧W.heap.size≤k) ma mc x.sum):wpAnyH Tryz.prog .any bE Q (Rc W) 2 #[yY,yY,yY,yY,yY,yY,yY,yY,yY,yY,yY,yY,yY,yY,yY,yY,yY,yY,yY,yY,yY,yY,yY,yY,yY,yY,yY,yY,yY,yY,yY,yY,yY,yY,yY,yY,yY,yY,nN,yY,nN] a V:=by
 refine wpAnyH_take (i:=38) (oi:=eR) (v:=.agg (oS x.kind x.name x.strength x.positive x.head x.cond.kind x.cond.word x.cond.num (.slice ka x.cond.kids.length kc) x.sum.kind x.sum.word x.sum.num (.slice ma x.sum.kids.length mc) x.way x.els)) rfl (by kernel_rfl) (by kernel_rfl) (by kernel_rfl) (fun c a w=>HP c a _ _ w) (Or.inl ⟨rfl,fun w _=>?_⟩) hr (ML (g:=g) (ka:=ka) (ma:=ma) (kc:=kc) (mc:=mc) HQ ((ha.put 42 _ (by omega) rfl).less (by simp)) hr hg hk hA hB)
 refine xI 30 _ rfl _ ?_ (OL x.kind x.name x.strength x.positive x.head x.cond.kind x.cond.word x.cond.num ka x.cond.kids.length kc x.sum.kind x.sum.word x.sum.num ma x.sum.kids.length mc x.way x.els)
 have e7:=ha.eval (k:=7) (v:=.string x.kind) (by simp)
 have e11:=ha.eval (k:=11) (v:=.string x.name) (by simp)
 have e15:=ha.eval (k:=15) (v:=.int .i64 x.strength) (by simp)
 have e19:=ha.eval (k:=19) (v:=.bool x.positive) (by simp)
 have e23:=ha.eval (k:=23) (v:=.string x.head) (by simp)
 have e28:=ha.eval (k:=28) (v:=.agg #[.string x.cond.kind,.string x.cond.word,.int .i64 x.cond.num,.slice ka x.cond.kids.length kc]) (by simp)
 have e33:=ha.eval (k:=33) (v:=.agg #[.string x.sum.kind,.string x.sum.word,.int .i64 x.sum.num,.slice ma x.sum.kids.length mc]) (by simp)
 have e37:=ha.eval (k:=37) (v:=.int .i64 x.way) (by simp)
 have e41:=ha.eval (k:=41) (v:=.string x.els) (by simp)
 simp[e7,e11,e15,e19,e23,e28,e33,e37,e41]
theorem aT(HP:qS Q)(HQ:Nx Q W x b o v2){a:Act}{V:World}{ka ma:Option Addr}{kc mc:Nat}(ha:AtP a [(28,.agg #[.string x.cond.kind,.string x.cond.word,.int .i64 x.cond.num,.slice ka x.cond.kids.length kc]),(33,.agg #[.string x.sum.kind,.string x.sum.word,.int .i64 x.sum.num,.slice ma x.sum.kids.length mc]),(7,.string x.kind),(11,.string x.name),(15,.int .i64 x.strength),(19,.bool x.positive),(23,.string x.head),(37,.int .i64 x.way),(41,.string x.els),(0,.pointer (some ⟨b,o,none⟩)),(2,v2)])(hr:Rc W V)
 (hA:NT V (fun k=>k<V.heap.size∧W.heap.size≤k) ka kc x.cond) (hB:NT V (fun k=>k<V.heap.size∧W.heap.size≤k) ma mc x.sum):wpAnyH Tryz.prog .any bE Q (Rc W) 3 #[yY,yY,yY,yY,yY,yY,yY,yY,yY,yY,yY,yY,yY,yY,yY,yY,yY,yY,yY,yY,yY,yY,yY,yY,yY,yY,yY,yY,yY,yY,yY,yY,yY,yY,yY,yY,yY,yY,nN,nN,nN] a V:=by
 refine kR HP ha (by kernel_rfl) (by kernel_rfl) hr fun a ha=>?_
 refine wpAnyH_ready (rs:=[39]) (by kernel_rfl) (by simp) (AllReadyH.cons (o:=NJ) rfl (fun K hK=>?_) AllReadyH.nil)
 refine nJ rfl (eJ V a) (hK.out _ _ (hr.alloc _) fun _=>?_)
 refine ML (g:=V.heap.size) (ka:=ka) (ma:=ma) (kc:=kc) (mc:=mc) HQ ((ha.put 3 _ (by omega) rfl).less (by simp)) (hr.alloc _) hr.size (heap_alloc_new _ _) ?_ ?_
 ·exact hA.step fun k hk=>⟨Go.Deep.blk_alloc_lt _ _ _ hk.1,by simp;omega,by omega,hk.2⟩
 ·exact hB.step fun k hk=>⟨Go.Deep.blk_alloc_lt _ _ _ hk.1,by simp;omega,by omega,hk.2⟩
theorem lR(C:PG W x b o ca sa cc sc)(HP:qS Q)(HQ:Nx Q W x b o v2){a:Act}{V:World}{g:Nat}{ka:Option Addr}{kc:Nat}(ha:AtP a ((3,.pointer (some ⟨g,0,none⟩))::(32,.agg #[.string x.sum.kind,.string x.sum.word,.int .i64 x.sum.num,.slice sa x.sum.kids.length sc])::(28,.agg #[.string x.cond.kind,.string x.cond.word,.int .i64 x.cond.num,.slice ka x.cond.kids.length kc])::[(7,.string x.kind),(11,.string x.name),(15,.int .i64 x.strength),(19,.bool x.positive),(23,.string x.head),(37,.int .i64 x.way),(41,.string x.els),(0,.pointer (some ⟨b,o,none⟩)),(2,v2)]))(hr:Rc W V)(hg:W.heap.size≤g)(hk:V.heap[g]?=some (.cells #[.string ⟨#[]⟩,.string ⟨#[]⟩,.int .i64 0,.bool false,.string ⟨#[]⟩,.string ⟨#[]⟩,.string ⟨#[]⟩,.int .i64 0,.slice none 0 0,.string ⟨#[]⟩,.string ⟨#[]⟩,.int .i64 0,.slice none 0 0,.int .i64 0,.slice none 0 0,.int .i64 0,.int .i64 0,.int .i64 0,.string ⟨#[]⟩] 30 (0,0)))
 (hA:NT V (fun k=>k<V.heap.size∧k≠g∧W.heap.size≤k) ka kc x.cond):wpAnyH Tryz.prog .any bE Q (Rc W) 3 #[yY,yY,yY,yY,yY,yY,yY,yY,yY,yY,yY,yY,yY,yY,yY,yY,yY,yY,yY,yY,yY,yY,yY,yY,yY,yY,yY,yY,yY,nN,yY,yY,yY,yY,yY,yY,yY,yY,nN,yY,nN] a V:=by
 have hgV:g<V.heap.size:=(Array.getElem?_eq_some_iff.1 hk).1
 have v32:=ha.2.2 32 (.agg #[.string x.sum.kind,.string x.sum.word,.int .i64 x.sum.num,.slice sa x.sum.kids.length sc]) (by simp)
 refine wpAnyH_ready (rs:=[29]) (by kernel_rfl) (by simp) (AllReadyH.cons (o:=EL) rfl (fun K hK=>?_) AllReadyH.nil)
 refine aG rfl (f:=26) (args:=#[.agg #[.string x.sum.kind,.string x.sum.word,.int .i64 x.sum.num,.slice sa x.sum.kids.length sc]]) (by simp[execOp,EL,v32,go_sem]) (C.su V hr) ?_
 rintro e VB ⟨⟨ma,mc,rfl,hB⟩,hb⟩
 have rB:Rc V VB:=hb
 refine⟨_,rfl,hK.out _ _ (hr.trans rB) fun _=>?_⟩
 refine iV (g:=g) (ka:=ka) (ma:=ma) (kc:=kc) (mc:=mc) HP HQ ((ha.put 33 _ (by omega) rfl).less (by simp)) (hr.trans rB) hg ((rB.block g hgV).trans hk) ?_ ?_
 ·exact hA.step fun k hk=>⟨rB.block k hk.1,Nat.lt_of_lt_of_le hk.1 rB.size,hk.2.1,hk.2.2⟩
 ·exact hB.step fun k hk=>⟨rfl,hk.2,by omega,Nat.le_trans hr.size hk.1⟩
theorem kV(C:PG W x b o ca sa cc sc)(HP:qS Q)(HQ:Nx Q W x b o v2){a:Act}{V:World}{g:Nat}(ha:AtP a ((3,.pointer (some ⟨g,0,none⟩))::(32,.agg #[.string x.sum.kind,.string x.sum.word,.int .i64 x.sum.num,.slice sa x.sum.kids.length sc])::(27,.agg #[.string x.cond.kind,.string x.cond.word,.int .i64 x.cond.num,.slice ca x.cond.kids.length cc])::[(7,.string x.kind),(11,.string x.name),(15,.int .i64 x.strength),(19,.bool x.positive),(23,.string x.head),(37,.int .i64 x.way),(41,.string x.els),(0,.pointer (some ⟨b,o,none⟩)),(2,v2)]))(hr:Rc W V)(hg:W.heap.size≤g)(hk:V.heap[g]?=some (.cells #[.string ⟨#[]⟩,.string ⟨#[]⟩,.int .i64 0,.bool false,.string ⟨#[]⟩,.string ⟨#[]⟩,.string ⟨#[]⟩,.int .i64 0,.slice none 0 0,.string ⟨#[]⟩,.string ⟨#[]⟩,.int .i64 0,.slice none 0 0,.int .i64 0,.slice none 0 0,.int .i64 0,.int .i64 0,.int .i64 0,.string ⟨#[]⟩] 30 (0,0))):wpAnyH Tryz.prog .any bE Q (Rc W) 4 #[yY,yY,yY,yY,yY,yY,yY,yY,yY,yY,yY,yY,yY,yY,yY,yY,yY,yY,yY,yY,yY,yY,yY,yY,nN,yY,yY,yY,yY,nN,yY,yY,yY,yY,yY,yY,yY,yY,nN,yY,nN] a V:=by
 have hgV:g<V.heap.size:=(Array.getElem?_eq_some_iff.1 hk).1
 have v27:=ha.2.2 27 (.agg #[.string x.cond.kind,.string x.cond.word,.int .i64 x.cond.num,.slice ca x.cond.kids.length cc]) (by simp)
 refine wpAnyH_ready (rs:=[24]) (by kernel_rfl) (by simp) (AllReadyH.cons (o:=DL) rfl (fun K hK=>?_) AllReadyH.nil)
 refine aG rfl (f:=26) (args:=#[.agg #[.string x.cond.kind,.string x.cond.word,.int .i64 x.cond.num,.slice ca x.cond.kids.length cc]]) (by simp[execOp,DL,v27,go_sem]) (C.co V hr) ?_
 rintro e VA ⟨⟨ka,kc,rfl,hA⟩,hb⟩
 have rA:Rc V VA:=hb
 refine⟨_,rfl,hK.out _ _ (hr.trans rA) fun _=>?_⟩
 refine lR (g:=g) (ka:=ka) (kc:=kc) C HP HQ ((ha.put 28 _ (by omega) rfl).less (by simp)) (hr.trans rA) hg ((rA.block g hgV).trans hk) ?_
 exact hA.step fun k hk=>⟨rfl,hk.2,by omega,Nat.le_trans hr.size hk.1⟩
theorem jV(C:PG W x b o ca sa cc sc)(HP:qS Q)(HQ:Nx Q W x b o v2){a:Act}{V:World}{ka:Option Addr}{kc:Nat}(ha:AtP a ((32,.agg #[.string x.sum.kind,.string x.sum.word,.int .i64 x.sum.num,.slice sa x.sum.kids.length sc])::(28,.agg #[.string x.cond.kind,.string x.cond.word,.int .i64 x.cond.num,.slice ka x.cond.kids.length kc])::[(7,.string x.kind),(11,.string x.name),(15,.int .i64 x.strength),(19,.bool x.positive),(23,.string x.head),(37,.int .i64 x.way),(41,.string x.els),(0,.pointer (some ⟨b,o,none⟩)),(2,v2)]))(hr:Rc W V)
 (hA:NT V (fun k=>k<V.heap.size∧W.heap.size≤k) ka kc x.cond):wpAnyH Tryz.prog .any bE Q (Rc W) 4 #[yY,yY,yY,yY,yY,yY,yY,yY,yY,yY,yY,yY,yY,yY,yY,yY,yY,yY,yY,yY,yY,yY,yY,yY,yY,yY,yY,yY,yY,nN,yY,yY,yY,yY,yY,yY,yY,yY,nN,nN,nN] a V:=by
 have v32:=ha.2.2 32 (.agg #[.string x.sum.kind,.string x.sum.word,.int .i64 x.sum.num,.slice sa x.sum.kids.length sc]) (by simp)
 refine wpAnyH_ready (rs:=[29,39]) (by kernel_rfl) (by simp) (AllReadyH.cons (o:=EL) rfl (fun K hK=>?_) (AllReadyH.cons (o:=NJ) rfl (fun K hK=>?_) AllReadyH.nil))
 ·refine aG rfl (f:=26) (args:=#[.agg #[.string x.sum.kind,.string x.sum.word,.int .i64 x.sum.num,.slice sa x.sum.kids.length sc]]) (by simp[execOp,EL,v32,go_sem]) (C.su V hr) ?_
  rintro e VB ⟨⟨ma,mc,rfl,hB⟩,hb⟩
  have rB:Rc V VB:=hb
  refine⟨_,rfl,hK.out _ _ (hr.trans rB) fun _=>?_⟩
  refine aT (ka:=ka) (ma:=ma) (kc:=kc) (mc:=mc) HP HQ ((ha.put 33 _ (by omega) rfl).less (by simp)) (hr.trans rB) ?_ ?_
  ·exact hA.step fun k hk=>⟨rB.block k hk.1,Nat.lt_of_lt_of_le hk.1 rB.size,hk.2⟩
  ·exact hB.step fun k hk=>⟨rfl,hk.2,Nat.le_trans hr.size hk.1⟩
 ·refine nJ rfl (eJ V a) (hK.out _ _ (hr.alloc _) fun _=>?_)
  refine lR (g:=V.heap.size) (ka:=ka) (kc:=kc) C HP HQ ((ha.put 3 _ (by omega) rfl).less (by simp)) (hr.alloc _) hr.size (heap_alloc_new _ _) ?_
  exact hA.step fun k hk=>⟨Go.Deep.blk_alloc_lt _ _ _ hk.1,by simp;omega,by omega,hk.2⟩
theorem lV(C:PG W x b o ca sa cc sc)(HP:qS Q)(HQ:Nx Q W x b o v2){a:Act}{V:World}(ha:AtP a ((32,.agg #[.string x.sum.kind,.string x.sum.word,.int .i64 x.sum.num,.slice sa x.sum.kids.length sc])::(27,.agg #[.string x.cond.kind,.string x.cond.word,.int .i64 x.cond.num,.slice ca x.cond.kids.length cc])::[(7,.string x.kind),(11,.string x.name),(15,.int .i64 x.strength),(19,.bool x.positive),(23,.string x.head),(37,.int .i64 x.way),(41,.string x.els),(0,.pointer (some ⟨b,o,none⟩)),(2,v2)]))(hr:Rc W V):wpAnyH Tryz.prog .any bE Q (Rc W) 5 #[yY,yY,yY,yY,yY,yY,yY,yY,yY,yY,yY,yY,yY,yY,yY,yY,yY,yY,yY,yY,yY,yY,yY,yY,nN,yY,yY,yY,yY,nN,yY,yY,yY,yY,yY,yY,yY,yY,nN,nN,nN] a V:=by
 have v27:=ha.2.2 27 (.agg #[.string x.cond.kind,.string x.cond.word,.int .i64 x.cond.num,.slice ca x.cond.kids.length cc]) (by simp)
 refine wpAnyH_ready (rs:=[24,39]) (by kernel_rfl) (by simp) (AllReadyH.cons (o:=DL) rfl (fun K hK=>?_) (AllReadyH.cons (o:=NJ) rfl (fun K hK=>?_) AllReadyH.nil))
 ·refine aG rfl (f:=26) (args:=#[.agg #[.string x.cond.kind,.string x.cond.word,.int .i64 x.cond.num,.slice ca x.cond.kids.length cc]]) (by simp[execOp,DL,v27,go_sem]) (C.co V hr) ?_
  rintro e VA ⟨⟨ka,kc,rfl,hA⟩,hb⟩
  have rA:Rc V VA:=hb
  refine⟨_,rfl,hK.out _ _ (hr.trans rA) fun _=>?_⟩
  refine jV (ka:=ka) (kc:=kc) C HP HQ ((ha.put 28 _ (by omega) rfl).less (by simp)) (hr.trans rA) ?_
  exact hA.step fun k hk=>⟨rfl,hk.2,Nat.le_trans hr.size hk.1⟩
 ·refine nJ rfl (eJ V a) (hK.out _ _ (hr.alloc _) fun _=>?_)
  exact kV (g:=V.heap.size) C HP HQ ((ha.put 3 _ (by omega) rfl).less (by simp)) (hr.alloc _) hr.size (heap_alloc_new _ _)
theorem AtP.puts{a:Act}{l:List (Nat×Value)}(h:AtP a l)(k:Nat)(v:Value)(hk:k<69)(hn:∀j u,(j,u)∈l→j<k):AtP (a.put (some k) v) ((k,v)::l):=h.put k v hk (by
 rw[List.all_eq_true]
 intro j hj
 obtain⟨⟨j2,u⟩,h1,rfl⟩:=List.mem_map.1 hj
 have:=hn j2 u h1
 simp
 omega)
theorem ZH{l:List (Nat×Value)}{k:Nat}{v:Value}(h:∀j u,(j,u)∈l→j<k):∀j u,(j,u)∈((k,v)::l)→j<k+1:=fun j u hj=>by
 rcases List.mem_cons.1 hj with e|hj
 ·injection e with e _;omega
 ·have:=h j u hj;omega
theorem XF(HP:qS Q){i s fuel:Nat}{listed:Array Bool}{p v:Value}{kn:List (Nat×Value)}{V:World}(o0 o1 o2 o3:Oper)(g0:bE[i]?=some o0)(g1:bE[i+1]?=some o1)(g2:bE[i+2]?=some o2)(g3:bE[i+3]?=some o3)
 (d0:o0.dst=some s) (d1:o1.dst=some (s+1)) (d2:o2.dst=some (s+1+1)) (d3:o3.dst=some (s+1+1+1)) (w0:o0.guard=none) (w1:o1.guard=none) (w2:o2.guard=none) (w3:o3.guard=none)
 (f0:Region.free .any bE listed i=true) (r0:(Region.ready .any bE listed).contains i=true) (f1:Region.free .any bE (listed.setIfInBounds i true) (i+1)=true) (r1:(Region.ready .any bE (listed.setIfInBounds i true)).contains (i+1)=true)
 (f2:Region.free .any bE ((listed.setIfInBounds i true).setIfInBounds (i+1) true) (i+2)=true) (r2:(Region.ready .any bE ((listed.setIfInBounds i true).setIfInBounds (i+1) true)).contains (i+2)=true)
 (f3:Region.free .any bE (((listed.setIfInBounds i true).setIfInBounds (i+1) true).setIfInBounds (i+2) true) (i+3)=true) (r3:(Region.ready .any bE (((listed.setIfInBounds i true).setIfInBounds (i+1) true).setIfInBounds (i+2) true)).contains (i+3)=true)
 (e0:∀a:Act,a.tmps[0]?=some (.pointer (some ⟨b,o,none⟩))→∀w,(execOp a.eval o0).run Tryz.prog w=.ok (.value (.pointer (some ⟨b,o,none⟩))) w) (e1:∀a:Act,a.tmps[s]?=some (.pointer (some ⟨b,o,none⟩))→∀w,(execOp a.eval o1).run Tryz.prog w=.ok (.value (.pointer (some ⟨b,o,none⟩))) w)
 (e2:∀a:Act,a.tmps[s+1]?=some (.pointer (some ⟨b,o,none⟩))→∀w,(execOp a.eval o2).run Tryz.prog w=.ok (.value p) w) (e3:∀a:Act,a.tmps[s+1+1]?=some p→∀w,Rc W w→(execOp a.eval o3).run Tryz.prog w=.ok (.value v) w)
 (hs:s+3<69) (hb:(kn.all fun p=>decide (p.1<s))=true) (h0:(0,.pointer (some ⟨b,o,none⟩))∈kn) {a:Act} (ha:AtP a kn) (hr:Rc W V) (h:∀a,AtP a ((s+1+1+1,v)::kn)→wpAnyH Tryz.prog .any bE Q (Rc W) fuel ((((listed.setIfInBounds i true).setIfInBounds (i+1) true).setIfInBounds (i+2) true).setIfInBounds (i+3) true) a V):
 wpAnyH Tryz.prog .any bE Q (Rc W) (fuel+1+1+1+1) listed a V:=by
 have wt:∀{o:Oper} (a:Act),o.guard=none→Region.wanted o (yielded bE a.tmps)=true:=fun a h=>by simp[Region.wanted,h]
 have hn:∀j u,(j,u)∈kn→j<s:=fun j u hj=>(by
  rw[List.all_eq_true] at hb
  have:=hb (j,u) hj
  simpa using this)
 have h1:=ha.puts s (.pointer (some ⟨b,o,none⟩)) (by omega) hn
 have h2:=h1.puts (s+1) (.pointer (some ⟨b,o,none⟩)) (by omega) (ZH hn)
 have h3:=h2.puts (s+1+1) p (by omega) (ZH (ZH hn))
 have h4:=h3.puts (s+1+1+1) v (by omega) (ZH (ZH (ZH hn)))
 have q0:=e0 a (ha.2.2 _ _ h0)
 have q1:=e1 _ (h1.2.2 _ _ (List.mem_cons_self ..))
 have q2:=e2 _ (h2.2.2 _ _ (List.mem_cons_self ..))
 have q3:=e3 _ (h3.2.2 _ _ (List.mem_cons_self ..))
 refine wpAnyH_take g0 (by kernel_rfl) f0 r0 (fun c a w=>HP c a _ _ w) (Or.inl ⟨wt _ w0,fun w _=>q0 w⟩) hr ?_
 rw[d0]
 refine wpAnyH_take g1 (by kernel_rfl) f1 r1 (fun c a w=>HP c a _ _ w) (Or.inl ⟨wt _ w1,fun w _=>q1 w⟩) hr ?_
 rw[d1]
 refine wpAnyH_take g2 (by kernel_rfl) f2 r2 (fun c a w=>HP c a _ _ w) (Or.inl ⟨wt _ w2,fun w _=>q2 w⟩) hr ?_
 rw[d2]
 refine wpAnyH_take g3 (by kernel_rfl) f3 r3 (fun c a w=>HP c a _ _ w) (Or.inl ⟨wt _ w3,q3⟩) hr ?_
 rw[d3]
 exact h _ (h4.less fun x hx=>(by
  rcases List.mem_cons.1 hx with rfl|hx
  ·exact List.mem_cons_self ..
  ·exact List.mem_cons_of_mem _ (List.mem_cons_of_mem _ (List.mem_cons_of_mem _ (List.mem_cons_of_mem _ hx)))))
theorem XO(C:PG W x b o ca sa cc sc)(HP:qS Q)(HQ:Nx Q W x b o v2){a:Act}{V:World}(ha:AtP a [(0,.pointer (some ⟨b,o,none⟩)),(2,v2)])(hr:Rc W V):wpAnyH Tryz.prog .any bE Q (Rc W) 41 #[nN,nN,nN,nN,nN,nN,nN,nN,nN,nN,nN,nN,nN,nN,nN,nN,nN,nN,nN,nN,nN,nN,nN,nN,nN,nN,nN,nN,nN,nN,nN,nN,nN,nN,nN,nN,nN,nN,nN,nN,nN] a V:=by
 refine XF (b:=b) (o:=o) (fuel:=37) (i:=0) (s:=4) (p:=.pointer (some ⟨b,o,none⟩)) (v:=.string x.kind) HP XU YU ZU aV rfl rfl rfl rfl rfl rfl rfl rfl rfl rfl rfl rfl (by kernel_rfl) (by kernel_rfl) (by kernel_rfl) (by kernel_rfl) (by kernel_rfl) (by kernel_rfl) (by kernel_rfl) (by kernel_rfl) (fun a q w=>(by unfold XU;go_simp)) (fun a q w=>(by unfold YU;go_simp)) (fun a q w=>(by unfold ZU;go_simp)) (fun a q w hw=>(by obtain⟨c0,c1,c2,c3,c4,c5,c6,c7,c8,c9,c10,c11,c12,c13,c18⟩:=C.cl w hw;clear C HP HQ ha hr hw;unfold aV;go_simp)) (by omega) rfl (by simp) ha hr fun a ha=>?_
 refine XF (b:=b) (o:=o) (fuel:=33) (i:=4) (s:=8) (p:=.pointer (some ⟨b,o+1,none⟩)) (v:=.string x.name) HP bV cV dV eV rfl rfl rfl rfl rfl rfl rfl rfl rfl rfl rfl rfl (by kernel_rfl) (by kernel_rfl) (by kernel_rfl) (by kernel_rfl) (by kernel_rfl) (by kernel_rfl) (by kernel_rfl) (by kernel_rfl) (fun a q w=>(by unfold bV;go_simp)) (fun a q w=>(by unfold cV;go_simp)) (fun a q w=>(by unfold dV;go_simp)) (fun a q w hw=>(by obtain⟨c0,c1,c2,c3,c4,c5,c6,c7,c8,c9,c10,c11,c12,c13,c18⟩:=C.cl w hw;clear C HP HQ ha hr hw;unfold eV;go_simp)) (by omega) rfl (by simp) ha hr fun a ha=>?_
 refine XF (b:=b) (o:=o) (fuel:=29) (i:=8) (s:=12) (p:=.pointer (some ⟨b,o+2,none⟩)) (v:=.int .i64 x.strength) HP fV gV DQ EQ rfl rfl rfl rfl rfl rfl rfl rfl rfl rfl rfl rfl (by kernel_rfl) (by kernel_rfl) (by kernel_rfl) (by kernel_rfl) (by kernel_rfl) (by kernel_rfl) (by kernel_rfl) (by kernel_rfl) (fun a q w=>(by unfold fV;go_simp)) (fun a q w=>(by unfold gV;go_simp)) (fun a q w=>(by unfold DQ;go_simp)) (fun a q w hw=>(by obtain⟨c0,c1,c2,c3,c4,c5,c6,c7,c8,c9,c10,c11,c12,c13,c18⟩:=C.cl w hw;clear C HP HQ ha hr hw;unfold EQ;go_simp)) (by omega) rfl (by simp) ha hr fun a ha=>?_
 refine XF (b:=b) (o:=o) (fuel:=25) (i:=12) (s:=16) (p:=.pointer (some ⟨b,o+3,none⟩)) (v:=.bool x.positive) HP FQ GQ IQ JQ rfl rfl rfl rfl rfl rfl rfl rfl rfl rfl rfl rfl (by kernel_rfl) (by kernel_rfl) (by kernel_rfl) (by kernel_rfl) (by kernel_rfl) (by kernel_rfl) (by kernel_rfl) (by kernel_rfl) (fun a q w=>(by unfold FQ;go_simp)) (fun a q w=>(by unfold GQ;go_simp)) (fun a q w=>(by unfold IQ;go_simp)) (fun a q w hw=>(by obtain⟨c0,c1,c2,c3,c4,c5,c6,c7,c8,c9,c10,c11,c12,c13,c18⟩:=C.cl w hw;clear C HP HQ ha hr hw;unfold JQ;go_simp)) (by omega) rfl (by simp) ha hr fun a ha=>?_
 refine XF (b:=b) (o:=o) (fuel:=21) (i:=16) (s:=20) (p:=.pointer (some ⟨b,o+4,none⟩)) (v:=.string x.head) HP KQ LQ MQ NQ rfl rfl rfl rfl rfl rfl rfl rfl rfl rfl rfl rfl (by kernel_rfl) (by kernel_rfl) (by kernel_rfl) (by kernel_rfl) (by kernel_rfl) (by kernel_rfl) (by kernel_rfl) (by kernel_rfl) (fun a q w=>(by unfold KQ;go_simp)) (fun a q w=>(by unfold LQ;go_simp)) (fun a q w=>(by unfold MQ;go_simp)) (fun a q w hw=>(by obtain⟨c0,c1,c2,c3,c4,c5,c6,c7,c8,c9,c10,c11,c12,c13,c18⟩:=C.cl w hw;clear C HP HQ ha hr hw;unfold NQ;go_simp)) (by omega) rfl (by simp) ha hr fun a ha=>?_
 refine XF (b:=b) (o:=o) (fuel:=17) (i:=20) (s:=24) (p:=.pointer (some ⟨b,o+5,none⟩)) (v:=.agg #[.string x.cond.kind,.string x.cond.word,.int .i64 x.cond.num,.slice ca x.cond.kids.length cc]) HP OQ PQ QQ RQ rfl rfl rfl rfl rfl rfl rfl rfl rfl rfl rfl rfl (by kernel_rfl) (by kernel_rfl) (by kernel_rfl) (by kernel_rfl) (by kernel_rfl) (by kernel_rfl) (by kernel_rfl) (by kernel_rfl) (fun a q w=>(by unfold OQ;go_simp)) (fun a q w=>(by unfold PQ;go_simp)) (fun a q w=>(by unfold QQ;go_simp)) (fun a q w hw=>(by obtain⟨c0,c1,c2,c3,c4,c5,c6,c7,c8,c9,c10,c11,c12,c13,c18⟩:=C.cl w hw;clear C HP HQ ha hr hw;unfold RQ;go_simp)) (by omega) rfl (by simp) ha hr fun a ha=>?_
 refine XF (b:=b) (o:=o) (fuel:=13) (i:=25) (s:=29) (p:=.pointer (some ⟨b,o+9,none⟩)) (v:=.agg #[.string x.sum.kind,.string x.sum.word,.int .i64 x.sum.num,.slice sa x.sum.kids.length sc]) HP SQ TQ UQ VQ rfl rfl rfl rfl rfl rfl rfl rfl rfl rfl rfl rfl (by kernel_rfl) (by kernel_rfl) (by kernel_rfl) (by kernel_rfl) (by kernel_rfl) (by kernel_rfl) (by kernel_rfl) (by kernel_rfl) (fun a q w=>(by unfold SQ;go_simp)) (fun a q w=>(by unfold TQ;go_simp)) (fun a q w=>(by unfold UQ;go_simp)) (fun a q w hw=>(by obtain⟨c0,c1,c2,c3,c4,c5,c6,c7,c8,c9,c10,c11,c12,c13,c18⟩:=C.cl w hw;clear C HP HQ ha hr hw;unfold VQ;go_simp)) (by omega) rfl (by simp) ha hr fun a ha=>?_
 refine XF (b:=b) (o:=o) (fuel:=9) (i:=30) (s:=34) (p:=.pointer (some ⟨b,o+13,none⟩)) (v:=.int .i64 x.way) HP WQ XQ YQ ZQ rfl rfl rfl rfl rfl rfl rfl rfl rfl rfl rfl rfl (by kernel_rfl) (by kernel_rfl) (by kernel_rfl) (by kernel_rfl) (by kernel_rfl) (by kernel_rfl) (by kernel_rfl) (by kernel_rfl) (fun a q w=>(by unfold WQ;go_simp)) (fun a q w=>(by unfold XQ;go_simp)) (fun a q w=>(by unfold YQ;go_simp)) (fun a q w hw=>(by obtain⟨c0,c1,c2,c3,c4,c5,c6,c7,c8,c9,c10,c11,c12,c13,c18⟩:=C.cl w hw;clear C HP HQ ha hr hw;unfold ZQ;go_simp)) (by omega) rfl (by simp) ha hr fun a ha=>?_
 refine XF (b:=b) (o:=o) (fuel:=5) (i:=34) (s:=38) (p:=.pointer (some ⟨b,o+18,none⟩)) (v:=.string x.els) HP aR bR cR dR rfl rfl rfl rfl rfl rfl rfl rfl rfl rfl rfl rfl (by kernel_rfl) (by kernel_rfl) (by kernel_rfl) (by kernel_rfl) (by kernel_rfl) (by kernel_rfl) (by kernel_rfl) (by kernel_rfl) (fun a q w=>(by unfold aR;go_simp)) (fun a q w=>(by unfold bR;go_simp)) (fun a q w=>(by unfold cR;go_simp)) (fun a q w hw=>(by obtain⟨c0,c1,c2,c3,c4,c5,c6,c7,c8,c9,c10,c11,c12,c13,c18⟩:=C.cl w hw;clear C HP HQ ha hr hw;unfold dR;go_simp)) (by omega) rfl (by simp) ha hr fun a ha=>?_
 exact lV C HP HQ (ha.less (by simp)) hr
end
end Go.Proofs.YtehbinobohjadaaGreatDoor

import Derived.Test.YtpbolcjcmkmalaaGreatDoorAq00
import Derived.Test.YtpbolcjcmkmalaaGreatDoorAq21
set_option maxHeartbeats 20000000
set_option maxRecDepth 20000
namespace Go.Proofs.YtpbolcjcmkmalaaGreatDoor
open Go.RowKit
set_option linter.unusedVariables false
def BU:Oper:={dst:=some 45,op:=Op.move (Operand.tmp 9),type:=51,pos:= "amend.go:104",after:=#[],guard:=none}
def CU:Oper:={dst:=some 46,op:=Op.nilCheck (Operand.tmp 45),type:=0,pos:= "amend.go:104",after:=#[{on:=0,ground:=Ground.data}],guard:=none}
def DU:Oper:={dst:=some 47,op:=Op.fieldAddr 25 (Operand.tmp 46) 3,type:=0,pos:= "amend.go:104",after:=#[{on:=1,ground:=Ground.data}],guard:=none}
def EU:Oper:={dst:=some 48,op:=Op.load 23 (Operand.tmp 47),type:=23,pos:= "amend.go:104",after:=#[{on:=2,ground:=Ground.data}],guard:=none}
def FU:Oper:={dst:=some 49,op:=Op.fieldAddr 46 (Operand.tmp 3) 2,type:=0,pos:= "amend.go:104",after:=#[],guard:=none}
def GU:Oper:={dst:=some 50,op:=Op.load 9 (Operand.tmp 49),type:=9,pos:= "amend.go:104",after:=#[{on:=4,ground:=Ground.data}],guard:=none}
def IU:Oper:={dst:=some 51,op:=Op.call {callee:=Callee.value (Operand.func 76),args:=#[Operand.tmp 48,Operand.tmp 50],argTypes:=#[23,9]},type:=3,pos:= "amend.go:104",after:=#[{on:=3,ground:=Ground.data},{on:=5,ground:=Ground.data}],guard:=none}
def JU:Oper:={dst:=some 52,op:=Op.binOp BinOp.lss 3 (Operand.tmp 51) (Operand.const (Value.int IntKind.i64 0)) 3,type:=4,pos:= "amend.go:104",after:=#[{on:=6,ground:=Ground.data}],guard:=none}
def KU:Oper:={dst:=some 53,op:=Op.move (Operand.tmp 52),type:=4,pos:= "amend.go:104",after:=#[{on:=7,ground:=Ground.data},{on:=6,ground:=Ground.chain}],guard:=none}
def LU:Oper:={dst:=some 54,op:=Op.move (Operand.tmp 9),type:=51,pos:= "amend.go:104",after:=#[{on:=8,ground:=Ground.guard}],guard:=some (8,false)}
def jT:Oper:={dst:=some 55,op:=Op.move (Operand.tmp 7),type:=51,pos:= "amend.go:104",after:=#[{on:=8,ground:=Ground.guard}],guard:=some (8,false)}
def kT:Oper:={dst:=some 56,op:=Op.binOp BinOp.eql 51 (Operand.tmp 54) (Operand.tmp 55) 51,type:=4,pos:= "amend.go:104",after:=#[{on:=9,ground:=Ground.data},{on:=10,ground:=Ground.data},{on:=8,ground:=Ground.guard}],guard:=some (8,false)}
def lT:Oper:={dst:=some 57,op:=Op.move (Operand.tmp 56),type:=4,pos:= "amend.go:104",after:=#[{on:=11,ground:=Ground.data},{on:=8,ground:=Ground.chain},{on:=8,ground:=Ground.guard}],guard:=some (8,false)}
def mT:Oper:={dst:=some 58,op:=Op.fieldAddr 46 (Operand.tmp 3) 2,type:=0,pos:= "amend.go:104",after:=#[{on:=12,ground:=Ground.guard}],guard:=some (12,true)}
def nT:Oper:={dst:=some 59,op:=Op.load 9 (Operand.tmp 58),type:=9,pos:= "amend.go:104",after:=#[{on:=13,ground:=Ground.data},{on:=12,ground:=Ground.guard}],guard:=some (12,true)}
def oT:Oper:={dst:=some 60,op:=Op.fieldAddr 25 (Operand.tmp 10) 0,type:=0,pos:= "amend.go:104",after:=#[{on:=12,ground:=Ground.guard}],guard:=some (12,true)}
def pT:Oper:={dst:=some 61,op:=Op.load 9 (Operand.tmp 60),type:=9,pos:= "amend.go:104",after:=#[{on:=15,ground:=Ground.data},{on:=12,ground:=Ground.guard}],guard:=some (12,true)}
def qT:Oper:={dst:=some 62,op:=Op.binOp BinOp.eql 9 (Operand.tmp 59) (Operand.tmp 61) 9,type:=4,pos:= "amend.go:104",after:=#[{on:=14,ground:=Ground.data},{on:=16,ground:=Ground.data},{on:=12,ground:=Ground.guard}],guard:=some (12,true)}
def rT:Oper:={dst:=some 63,op:=Op.pick (Operand.tmp 57) (Operand.tmp 62) (Operand.const (Value.bool false)),type:=4,pos:= "amend.go:104",after:=#[{on:=12,ground:=Ground.data},{on:=17,ground:=Ground.data},{on:=8,ground:=Ground.guard}],guard:=some (8,false)}
def uT:Oper:={dst:=some 64,op:=Op.pick (Operand.tmp 53) (Operand.const (Value.bool true)) (Operand.tmp 63),type:=4,pos:= "amend.go:104",after:=#[{on:=8,ground:=Ground.data},{on:=18,ground:=Ground.data}],guard:=none}
def mvAL:List Oper:=[BU,CU,DU,EU,FU,GU,IU,JU,KU,LU,jT,kT,lT,mT,nT,oT,pT,qT,rT,uT]
theorem DG{mid:List Value}(h:mid.length=20):∃u0 u1 u2 u3 u4 u5 u6 u7 u8 u9 u10 u11 u12 u13 u14 u15 u16 u17 u18 u19:Value,mid=[u0,u1,u2,u3,u4,u5,u6,u7,u8,u9,u10,u11,u12,u13,u14,u15,u16,u17,u18,u19]:=by
 match mid,h with
 | [u0,u1,u2,u3,u4,u5,u6,u7,u8,u9,u10,u11,u12,u13,u14,u15,u16,u17,u18,u19],_=>exact⟨_,_,_,_,_,_,_,_,_,_,_,_,_,_,_,_,_,_,_,_,rfl⟩
theorem zD{ρ:Operand→Value}{dst:Option Tmp}{ty ta tb:TypeId}{ps:String}{af:Array Go.Edge}{g:Option (Nat×Bool)}{w:World}{x y:Operand}{a b:Value}(h:ρ x=a)(h2:ρ y=b)(hf:ρ (.func 76)=.func (.func 76) #[] #[]):(execOp ρ ⟨dst,.call {callee:=.value (.func 76),args:=#[x,y],argTypes:=#[ta,tb]},ty,ps,af,g⟩).run Tryz.prog w=.ok (.enter 76 #[a,b]) w:=by
 simp[execOp,go_sem,h,h2,hf]
theorem NM{ρ:Operand→Value}{dst:Option Tmp}{ty ta tb:TypeId}{ps:String}{af:Array Go.Edge}{g:Option (Nat×Bool)}{w:World}{x y:Operand}{a b:Value}(h:ρ x=a)(h2:ρ y=b)(hf:ρ (.func 69)=.func (.func 69) #[] #[]):(execOp ρ ⟨dst,.call {callee:=.value (.func 69),args:=#[x,y],argTypes:=#[ta,tb]},ty,ps,af,g⟩).run Tryz.prog w=.ok (.enter 69 #[a,b]) w:=by
 simp[execOp,go_sem,h,h2,hf]
theorem tQ{C:World→Prop}{Q:Act→Prop}{pre mid suf:List Value}{d:List Deferred}(hk:pre.length=45)(hm:mid.length=20){b1 o1 b2 o2 g0 g1:Nat}{ka2:Option Addr}{yn kc2:Nat}{at' lab:ByteArray}{n1:Int}{same:Bool}
 (p9:pre[9]?=some (.pointer (some ⟨b2,o2,none⟩))) (p7:pre[7]?=some (.pointer (some ⟨b1,o1,none⟩))) (p3:pre[3]?=some (.pointer (some ⟨g0,0,none⟩))) (p10:pre[10]?=some (.pointer (some ⟨g1,0,none⟩)))
 (h3:∀W,C W→W.cell? ⟨b2,o2+3,none⟩=some (.slice ka2 yn kc2)) (hA:∀W,C W→W.cell? ⟨g0,2,none⟩=some (.string at')) (hL:∀W,C W→W.cell? ⟨g1,0,none⟩=some (.string lab))
 (hB:∀W,C W→Calls Tryz.prog 76 #[.slice ka2 yn kc2,.string at'] W fun e w'=>e=.returned (.int .i64 n1)∧C w') (hn:n1<0)
 (hQ:∀m:List Value,m.length=20→m[19]?=some (.bool true)→Q (MA pre m suf d)):wpQuiet Tryz.prog mvAL.toArray C Q mvAL (MA pre mid suf d):=by
 obtain⟨u0,u1,u2,u3,u4,u5,u6,u7,u8,u9,u10,u11,u12,u13,u14,u15,u16,u17,u18,u19,rfl⟩:=DG hm
 refine kA (.pointer (some ⟨b2,o2,none⟩)) hk rfl (by decide) (by simp) (zA rfl) (fun W hW=>aB (MA.lo p9)) ?_
 show wpQuiet _ _ C Q _ (MA pre [.pointer (some ⟨b2,o2,none⟩),u1,u2,u3,u4,u5,u6,u7,u8,u9,u10,u11,u12,u13,u14,u15,u16,u17,u18,u19] suf d)
 refine kA (.pointer (some ⟨b2,o2,none⟩)) hk rfl (by decide) (by simp) (zA rfl) (fun W hW=>QD (MA.hi hk (by decide) rfl)) ?_
 show wpQuiet _ _ C Q _ (MA pre [.pointer (some ⟨b2,o2,none⟩),.pointer (some ⟨b2,o2,none⟩),u2,u3,u4,u5,u6,u7,u8,u9,u10,u11,u12,u13,u14,u15,u16,u17,u18,u19] suf d)
 refine kA (.pointer (some ⟨b2,o2+3,none⟩)) hk rfl (by decide) (by simp) (zA rfl) (fun W hW=>IC (MA.hi hk (by decide) rfl)) ?_
 show wpQuiet _ _ C Q _ (MA pre [.pointer (some ⟨b2,o2,none⟩),.pointer (some ⟨b2,o2,none⟩),.pointer (some ⟨b2,o2+3,none⟩),u3,u4,u5,u6,u7,u8,u9,u10,u11,u12,u13,u14,u15,u16,u17,u18,u19] suf d)
 refine kA (.slice ka2 yn kc2) hk rfl (by decide) (by simp) (zA rfl) (fun W hW=>NE (MA.hi hk (by decide) rfl) (h3 W hW)) ?_
 show wpQuiet _ _ C Q _ (MA pre [.pointer (some ⟨b2,o2,none⟩),.pointer (some ⟨b2,o2,none⟩),.pointer (some ⟨b2,o2+3,none⟩),.slice ka2 yn kc2,u4,u5,u6,u7,u8,u9,u10,u11,u12,u13,u14,u15,u16,u17,u18,u19] suf d)
 refine kA (.pointer (some ⟨g0,2,none⟩)) hk rfl (by decide) (by simp) (zA rfl) (fun W hW=>FG (MA.lo p3)) ?_
 show wpQuiet _ _ C Q _ (MA pre [.pointer (some ⟨b2,o2,none⟩),.pointer (some ⟨b2,o2,none⟩),.pointer (some ⟨b2,o2+3,none⟩),.slice ka2 yn kc2,.pointer (some ⟨g0,2,none⟩),u5,u6,u7,u8,u9,u10,u11,u12,u13,u14,u15,u16,u17,u18,u19] suf d)
 refine kA (.string at') hk rfl (by decide) (by simp) (zA rfl) (fun W hW=>ZF (MA.hi hk (by decide) rfl) (hA W hW)) ?_
 show wpQuiet _ _ C Q _ (MA pre [.pointer (some ⟨b2,o2,none⟩),.pointer (some ⟨b2,o2,none⟩),.pointer (some ⟨b2,o2+3,none⟩),.slice ka2 yn kc2,.pointer (some ⟨g0,2,none⟩),.string at',u6,u7,u8,u9,u10,u11,u12,u13,u14,u15,u16,u17,u18,u19] suf d)
 refine BE 76 #[.slice ka2 yn kc2,.string at'] (.int .i64 n1) hk rfl (by decide) (by simp) (zA rfl) (fun W hW=>zD (MA.hi hk (by decide) rfl) (MA.hi hk (by decide) rfl) rfl) (fun W hW=>hB W hW) ?_
 show wpQuiet _ _ C Q _ (MA pre [.pointer (some ⟨b2,o2,none⟩),.pointer (some ⟨b2,o2,none⟩),.pointer (some ⟨b2,o2+3,none⟩),.slice ka2 yn kc2,.pointer (some ⟨g0,2,none⟩),.string at',.int .i64 n1,u7,u8,u9,u10,u11,u12,u13,u14,u15,u16,u17,u18,u19] suf d)
 refine kA (.bool true) hk rfl (by decide) (by simp) (zA rfl) (fun W hW=>TP (MA.hi hk (by decide) rfl) rfl (by simp[hn])) ?_
 show wpQuiet _ _ C Q _ (MA pre [.pointer (some ⟨b2,o2,none⟩),.pointer (some ⟨b2,o2,none⟩),.pointer (some ⟨b2,o2+3,none⟩),.slice ka2 yn kc2,.pointer (some ⟨g0,2,none⟩),.string at',.int .i64 n1,.bool true,u8,u9,u10,u11,u12,u13,u14,u15,u16,u17,u18,u19] suf d)
 refine kA (.bool true) hk rfl (by decide) (by simp) (zA rfl) (fun W hW=>aB (MA.hi hk (by decide) rfl)) ?_
 show wpQuiet _ _ C Q _ (MA pre [.pointer (some ⟨b2,o2,none⟩),.pointer (some ⟨b2,o2,none⟩),.pointer (some ⟨b2,o2+3,none⟩),.slice ka2 yn kc2,.pointer (some ⟨g0,2,none⟩),.string at',.int .i64 n1,.bool true,.bool true,u9,u10,u11,u12,u13,u14,u15,u16,u17,u18,u19] suf d)
 refine uB hk rfl (by decide) (by simp) (VA (n:=8) (j:=53) rfl rfl hk (by decide) rfl (by decide)) ?_
 show wpQuiet _ _ C Q _ (MA pre [.pointer (some ⟨b2,o2,none⟩),.pointer (some ⟨b2,o2,none⟩),.pointer (some ⟨b2,o2+3,none⟩),.slice ka2 yn kc2,.pointer (some ⟨g0,2,none⟩),.string at',.int .i64 n1,.bool true,.bool true,undef,u10,u11,u12,u13,u14,u15,u16,u17,u18,u19] suf d)
 refine uB hk rfl (by decide) (by simp) (VA (n:=8) (j:=53) rfl rfl hk (by decide) rfl (by decide)) ?_
 show wpQuiet _ _ C Q _ (MA pre [.pointer (some ⟨b2,o2,none⟩),.pointer (some ⟨b2,o2,none⟩),.pointer (some ⟨b2,o2+3,none⟩),.slice ka2 yn kc2,.pointer (some ⟨g0,2,none⟩),.string at',.int .i64 n1,.bool true,.bool true,undef,undef,u11,u12,u13,u14,u15,u16,u17,u18,u19] suf d)
 refine uB hk rfl (by decide) (by simp) (VA (n:=8) (j:=53) rfl rfl hk (by decide) rfl (by decide)) ?_
 show wpQuiet _ _ C Q _ (MA pre [.pointer (some ⟨b2,o2,none⟩),.pointer (some ⟨b2,o2,none⟩),.pointer (some ⟨b2,o2+3,none⟩),.slice ka2 yn kc2,.pointer (some ⟨g0,2,none⟩),.string at',.int .i64 n1,.bool true,.bool true,undef,undef,undef,u12,u13,u14,u15,u16,u17,u18,u19] suf d)
 refine uB hk rfl (by decide) (by simp) (VA (n:=8) (j:=53) rfl rfl hk (by decide) rfl (by decide)) ?_
 show wpQuiet _ _ C Q _ (MA pre [.pointer (some ⟨b2,o2,none⟩),.pointer (some ⟨b2,o2,none⟩),.pointer (some ⟨b2,o2+3,none⟩),.slice ka2 yn kc2,.pointer (some ⟨g0,2,none⟩),.string at',.int .i64 n1,.bool true,.bool true,undef,undef,undef,undef,u13,u14,u15,u16,u17,u18,u19] suf d)
 refine uB hk rfl (by decide) (by simp) (pL (n:=12) (j:=57) rfl rfl hk (by decide) rfl) ?_
 show wpQuiet _ _ C Q _ (MA pre [.pointer (some ⟨b2,o2,none⟩),.pointer (some ⟨b2,o2,none⟩),.pointer (some ⟨b2,o2+3,none⟩),.slice ka2 yn kc2,.pointer (some ⟨g0,2,none⟩),.string at',.int .i64 n1,.bool true,.bool true,undef,undef,undef,undef,undef,u14,u15,u16,u17,u18,u19] suf d)
 refine uB hk rfl (by decide) (by simp) (pL (n:=12) (j:=57) rfl rfl hk (by decide) rfl) ?_
 show wpQuiet _ _ C Q _ (MA pre [.pointer (some ⟨b2,o2,none⟩),.pointer (some ⟨b2,o2,none⟩),.pointer (some ⟨b2,o2+3,none⟩),.slice ka2 yn kc2,.pointer (some ⟨g0,2,none⟩),.string at',.int .i64 n1,.bool true,.bool true,undef,undef,undef,undef,undef,undef,u15,u16,u17,u18,u19] suf d)
 refine uB hk rfl (by decide) (by simp) (pL (n:=12) (j:=57) rfl rfl hk (by decide) rfl) ?_
 show wpQuiet _ _ C Q _ (MA pre [.pointer (some ⟨b2,o2,none⟩),.pointer (some ⟨b2,o2,none⟩),.pointer (some ⟨b2,o2+3,none⟩),.slice ka2 yn kc2,.pointer (some ⟨g0,2,none⟩),.string at',.int .i64 n1,.bool true,.bool true,undef,undef,undef,undef,undef,undef,undef,u16,u17,u18,u19] suf d)
 refine uB hk rfl (by decide) (by simp) (pL (n:=12) (j:=57) rfl rfl hk (by decide) rfl) ?_
 show wpQuiet _ _ C Q _ (MA pre [.pointer (some ⟨b2,o2,none⟩),.pointer (some ⟨b2,o2,none⟩),.pointer (some ⟨b2,o2+3,none⟩),.slice ka2 yn kc2,.pointer (some ⟨g0,2,none⟩),.string at',.int .i64 n1,.bool true,.bool true,undef,undef,undef,undef,undef,undef,undef,undef,u17,u18,u19] suf d)
 refine uB hk rfl (by decide) (by simp) (pL (n:=12) (j:=57) rfl rfl hk (by decide) rfl) ?_
 show wpQuiet _ _ C Q _ (MA pre [.pointer (some ⟨b2,o2,none⟩),.pointer (some ⟨b2,o2,none⟩),.pointer (some ⟨b2,o2+3,none⟩),.slice ka2 yn kc2,.pointer (some ⟨g0,2,none⟩),.string at',.int .i64 n1,.bool true,.bool true,undef,undef,undef,undef,undef,undef,undef,undef,undef,u18,u19] suf d)
 refine uB hk rfl (by decide) (by simp) (VA (n:=8) (j:=53) rfl rfl hk (by decide) rfl (by decide)) ?_
 show wpQuiet _ _ C Q _ (MA pre [.pointer (some ⟨b2,o2,none⟩),.pointer (some ⟨b2,o2,none⟩),.pointer (some ⟨b2,o2+3,none⟩),.slice ka2 yn kc2,.pointer (some ⟨g0,2,none⟩),.string at',.int .i64 n1,.bool true,.bool true,undef,undef,undef,undef,undef,undef,undef,undef,undef,undef,u19] suf d)
 refine kA (.bool true) hk rfl (by decide) (by simp) (zA rfl) (fun W hW=>jF (c:=true) (u:=.bool true) (v:=undef) (MA.hi hk (by decide) rfl) rfl (MA.hi hk (by decide) rfl) rfl) ?_
 show wpQuiet _ _ C Q _ (MA pre [.pointer (some ⟨b2,o2,none⟩),.pointer (some ⟨b2,o2,none⟩),.pointer (some ⟨b2,o2+3,none⟩),.slice ka2 yn kc2,.pointer (some ⟨g0,2,none⟩),.string at',.int .i64 n1,.bool true,.bool true,undef,undef,undef,undef,undef,undef,undef,undef,undef,undef,.bool true] suf d)
 exact wpQuiet_nil (hQ _ rfl rfl)
theorem rN{C:World→Prop}{Q:Act→Prop}{pre mid suf:List Value}{d:List Deferred}(hk:pre.length=45)(hm:mid.length=20){b1 o1 b2 o2 g0 g1:Nat}{ka2:Option Addr}{yn kc2:Nat}{at' lab:ByteArray}{n1:Int}{same:Bool}
 (p9:pre[9]?=some (.pointer (some ⟨b2,o2,none⟩))) (p7:pre[7]?=some (.pointer (some ⟨b1,o1,none⟩))) (p3:pre[3]?=some (.pointer (some ⟨g0,0,none⟩))) (p10:pre[10]?=some (.pointer (some ⟨g1,0,none⟩)))
 (h3:∀W,C W→W.cell? ⟨b2,o2+3,none⟩=some (.slice ka2 yn kc2)) (hA:∀W,C W→W.cell? ⟨g0,2,none⟩=some (.string at')) (hL:∀W,C W→W.cell? ⟨g1,0,none⟩=some (.string lab))
 (hB:∀W,C W→Calls Tryz.prog 76 #[.slice ka2 yn kc2,.string at'] W fun e w'=>e=.returned (.int .i64 n1)∧C w') (hn:¬n1<0) (hE:∀W,C W→(binOp .eql 51 (.pointer (some ⟨b2,o2,none⟩)) (.pointer (some ⟨b1,o1,none⟩))).run Tryz.prog W=.ok (.bool false) W)
 (hQ:∀m:List Value,m.length=20→m[19]?=some (.bool false)→Q (MA pre m suf d)):wpQuiet Tryz.prog mvAL.toArray C Q mvAL (MA pre mid suf d):=by
 obtain⟨u0,u1,u2,u3,u4,u5,u6,u7,u8,u9,u10,u11,u12,u13,u14,u15,u16,u17,u18,u19,rfl⟩:=DG hm
 refine kA (.pointer (some ⟨b2,o2,none⟩)) hk rfl (by decide) (by simp) (zA rfl) (fun W hW=>aB (MA.lo p9)) ?_
 show wpQuiet _ _ C Q _ (MA pre [.pointer (some ⟨b2,o2,none⟩),u1,u2,u3,u4,u5,u6,u7,u8,u9,u10,u11,u12,u13,u14,u15,u16,u17,u18,u19] suf d)
 refine kA (.pointer (some ⟨b2,o2,none⟩)) hk rfl (by decide) (by simp) (zA rfl) (fun W hW=>QD (MA.hi hk (by decide) rfl)) ?_
 show wpQuiet _ _ C Q _ (MA pre [.pointer (some ⟨b2,o2,none⟩),.pointer (some ⟨b2,o2,none⟩),u2,u3,u4,u5,u6,u7,u8,u9,u10,u11,u12,u13,u14,u15,u16,u17,u18,u19] suf d)
 refine kA (.pointer (some ⟨b2,o2+3,none⟩)) hk rfl (by decide) (by simp) (zA rfl) (fun W hW=>IC (MA.hi hk (by decide) rfl)) ?_
 show wpQuiet _ _ C Q _ (MA pre [.pointer (some ⟨b2,o2,none⟩),.pointer (some ⟨b2,o2,none⟩),.pointer (some ⟨b2,o2+3,none⟩),u3,u4,u5,u6,u7,u8,u9,u10,u11,u12,u13,u14,u15,u16,u17,u18,u19] suf d)
 refine kA (.slice ka2 yn kc2) hk rfl (by decide) (by simp) (zA rfl) (fun W hW=>NE (MA.hi hk (by decide) rfl) (h3 W hW)) ?_
 show wpQuiet _ _ C Q _ (MA pre [.pointer (some ⟨b2,o2,none⟩),.pointer (some ⟨b2,o2,none⟩),.pointer (some ⟨b2,o2+3,none⟩),.slice ka2 yn kc2,u4,u5,u6,u7,u8,u9,u10,u11,u12,u13,u14,u15,u16,u17,u18,u19] suf d)
 refine kA (.pointer (some ⟨g0,2,none⟩)) hk rfl (by decide) (by simp) (zA rfl) (fun W hW=>FG (MA.lo p3)) ?_
 show wpQuiet _ _ C Q _ (MA pre [.pointer (some ⟨b2,o2,none⟩),.pointer (some ⟨b2,o2,none⟩),.pointer (some ⟨b2,o2+3,none⟩),.slice ka2 yn kc2,.pointer (some ⟨g0,2,none⟩),u5,u6,u7,u8,u9,u10,u11,u12,u13,u14,u15,u16,u17,u18,u19] suf d)
 refine kA (.string at') hk rfl (by decide) (by simp) (zA rfl) (fun W hW=>ZF (MA.hi hk (by decide) rfl) (hA W hW)) ?_
 show wpQuiet _ _ C Q _ (MA pre [.pointer (some ⟨b2,o2,none⟩),.pointer (some ⟨b2,o2,none⟩),.pointer (some ⟨b2,o2+3,none⟩),.slice ka2 yn kc2,.pointer (some ⟨g0,2,none⟩),.string at',u6,u7,u8,u9,u10,u11,u12,u13,u14,u15,u16,u17,u18,u19] suf d)
 refine BE 76 #[.slice ka2 yn kc2,.string at'] (.int .i64 n1) hk rfl (by decide) (by simp) (zA rfl) (fun W hW=>zD (MA.hi hk (by decide) rfl) (MA.hi hk (by decide) rfl) rfl) (fun W hW=>hB W hW) ?_
 show wpQuiet _ _ C Q _ (MA pre [.pointer (some ⟨b2,o2,none⟩),.pointer (some ⟨b2,o2,none⟩),.pointer (some ⟨b2,o2+3,none⟩),.slice ka2 yn kc2,.pointer (some ⟨g0,2,none⟩),.string at',.int .i64 n1,u7,u8,u9,u10,u11,u12,u13,u14,u15,u16,u17,u18,u19] suf d)
 refine kA (.bool false) hk rfl (by decide) (by simp) (zA rfl) (fun W hW=>TP (MA.hi hk (by decide) rfl) rfl (by simp[hn])) ?_
 show wpQuiet _ _ C Q _ (MA pre [.pointer (some ⟨b2,o2,none⟩),.pointer (some ⟨b2,o2,none⟩),.pointer (some ⟨b2,o2+3,none⟩),.slice ka2 yn kc2,.pointer (some ⟨g0,2,none⟩),.string at',.int .i64 n1,.bool false,u8,u9,u10,u11,u12,u13,u14,u15,u16,u17,u18,u19] suf d)
 refine kA (.bool false) hk rfl (by decide) (by simp) (zA rfl) (fun W hW=>aB (MA.hi hk (by decide) rfl)) ?_
 show wpQuiet _ _ C Q _ (MA pre [.pointer (some ⟨b2,o2,none⟩),.pointer (some ⟨b2,o2,none⟩),.pointer (some ⟨b2,o2+3,none⟩),.slice ka2 yn kc2,.pointer (some ⟨g0,2,none⟩),.string at',.int .i64 n1,.bool false,.bool false,u9,u10,u11,u12,u13,u14,u15,u16,u17,u18,u19] suf d)
 refine kA (.pointer (some ⟨b2,o2,none⟩)) hk rfl (by decide) (by simp) (VA (n:=8) (j:=53) rfl rfl hk (by decide) rfl (by decide)) (fun W hW=>aB (MA.lo p9)) ?_
 show wpQuiet _ _ C Q _ (MA pre [.pointer (some ⟨b2,o2,none⟩),.pointer (some ⟨b2,o2,none⟩),.pointer (some ⟨b2,o2+3,none⟩),.slice ka2 yn kc2,.pointer (some ⟨g0,2,none⟩),.string at',.int .i64 n1,.bool false,.bool false,.pointer (some ⟨b2,o2,none⟩),u10,u11,u12,u13,u14,u15,u16,u17,u18,u19] suf d)
 refine kA (.pointer (some ⟨b1,o1,none⟩)) hk rfl (by decide) (by simp) (VA (n:=8) (j:=53) rfl rfl hk (by decide) rfl (by decide)) (fun W hW=>aB (MA.lo p7)) ?_
 show wpQuiet _ _ C Q _ (MA pre [.pointer (some ⟨b2,o2,none⟩),.pointer (some ⟨b2,o2,none⟩),.pointer (some ⟨b2,o2+3,none⟩),.slice ka2 yn kc2,.pointer (some ⟨g0,2,none⟩),.string at',.int .i64 n1,.bool false,.bool false,.pointer (some ⟨b2,o2,none⟩),.pointer (some ⟨b1,o1,none⟩),u11,u12,u13,u14,u15,u16,u17,u18,u19] suf d)
 refine kA (.bool false) hk rfl (by decide) (by simp) (VA (n:=8) (j:=53) rfl rfl hk (by decide) rfl (by decide)) (fun W hW=>MM (MA.hi hk (by decide) rfl) (MA.hi hk (by decide) rfl) rfl (hE W hW)) ?_
 show wpQuiet _ _ C Q _ (MA pre [.pointer (some ⟨b2,o2,none⟩),.pointer (some ⟨b2,o2,none⟩),.pointer (some ⟨b2,o2+3,none⟩),.slice ka2 yn kc2,.pointer (some ⟨g0,2,none⟩),.string at',.int .i64 n1,.bool false,.bool false,.pointer (some ⟨b2,o2,none⟩),.pointer (some ⟨b1,o1,none⟩),.bool false,u12,u13,u14,u15,u16,u17,u18,u19] suf d)
 refine kA (.bool false) hk rfl (by decide) (by simp) (VA (n:=8) (j:=53) rfl rfl hk (by decide) rfl (by decide)) (fun W hW=>aB (MA.hi hk (by decide) rfl)) ?_
 show wpQuiet _ _ C Q _ (MA pre [.pointer (some ⟨b2,o2,none⟩),.pointer (some ⟨b2,o2,none⟩),.pointer (some ⟨b2,o2+3,none⟩),.slice ka2 yn kc2,.pointer (some ⟨g0,2,none⟩),.string at',.int .i64 n1,.bool false,.bool false,.pointer (some ⟨b2,o2,none⟩),.pointer (some ⟨b1,o1,none⟩),.bool false,.bool false,u13,u14,u15,u16,u17,u18,u19] suf d)
 refine uB hk rfl (by decide) (by simp) (VA (n:=12) (j:=57) rfl rfl hk (by decide) rfl (by decide)) ?_
 show wpQuiet _ _ C Q _ (MA pre [.pointer (some ⟨b2,o2,none⟩),.pointer (some ⟨b2,o2,none⟩),.pointer (some ⟨b2,o2+3,none⟩),.slice ka2 yn kc2,.pointer (some ⟨g0,2,none⟩),.string at',.int .i64 n1,.bool false,.bool false,.pointer (some ⟨b2,o2,none⟩),.pointer (some ⟨b1,o1,none⟩),.bool false,.bool false,undef,u14,u15,u16,u17,u18,u19] suf d)
 refine uB hk rfl (by decide) (by simp) (VA (n:=12) (j:=57) rfl rfl hk (by decide) rfl (by decide)) ?_
 show wpQuiet _ _ C Q _ (MA pre [.pointer (some ⟨b2,o2,none⟩),.pointer (some ⟨b2,o2,none⟩),.pointer (some ⟨b2,o2+3,none⟩),.slice ka2 yn kc2,.pointer (some ⟨g0,2,none⟩),.string at',.int .i64 n1,.bool false,.bool false,.pointer (some ⟨b2,o2,none⟩),.pointer (some ⟨b1,o1,none⟩),.bool false,.bool false,undef,undef,u15,u16,u17,u18,u19] suf d)
 refine uB hk rfl (by decide) (by simp) (VA (n:=12) (j:=57) rfl rfl hk (by decide) rfl (by decide)) ?_
 show wpQuiet _ _ C Q _ (MA pre [.pointer (some ⟨b2,o2,none⟩),.pointer (some ⟨b2,o2,none⟩),.pointer (some ⟨b2,o2+3,none⟩),.slice ka2 yn kc2,.pointer (some ⟨g0,2,none⟩),.string at',.int .i64 n1,.bool false,.bool false,.pointer (some ⟨b2,o2,none⟩),.pointer (some ⟨b1,o1,none⟩),.bool false,.bool false,undef,undef,undef,u16,u17,u18,u19] suf d)
 refine uB hk rfl (by decide) (by simp) (VA (n:=12) (j:=57) rfl rfl hk (by decide) rfl (by decide)) ?_
 show wpQuiet _ _ C Q _ (MA pre [.pointer (some ⟨b2,o2,none⟩),.pointer (some ⟨b2,o2,none⟩),.pointer (some ⟨b2,o2+3,none⟩),.slice ka2 yn kc2,.pointer (some ⟨g0,2,none⟩),.string at',.int .i64 n1,.bool false,.bool false,.pointer (some ⟨b2,o2,none⟩),.pointer (some ⟨b1,o1,none⟩),.bool false,.bool false,undef,undef,undef,undef,u17,u18,u19] suf d)
 refine uB hk rfl (by decide) (by simp) (VA (n:=12) (j:=57) rfl rfl hk (by decide) rfl (by decide)) ?_
 show wpQuiet _ _ C Q _ (MA pre [.pointer (some ⟨b2,o2,none⟩),.pointer (some ⟨b2,o2,none⟩),.pointer (some ⟨b2,o2+3,none⟩),.slice ka2 yn kc2,.pointer (some ⟨g0,2,none⟩),.string at',.int .i64 n1,.bool false,.bool false,.pointer (some ⟨b2,o2,none⟩),.pointer (some ⟨b1,o1,none⟩),.bool false,.bool false,undef,undef,undef,undef,undef,u18,u19] suf d)
 refine kA (.bool false) hk rfl (by decide) (by simp) (VA (n:=8) (j:=53) rfl rfl hk (by decide) rfl (by decide)) (fun W hW=>jF (c:=false) (u:=undef) (MA.hi hk (by decide) rfl) (MA.hi hk (by decide) rfl) rfl rfl) ?_
 show wpQuiet _ _ C Q _ (MA pre [.pointer (some ⟨b2,o2,none⟩),.pointer (some ⟨b2,o2,none⟩),.pointer (some ⟨b2,o2+3,none⟩),.slice ka2 yn kc2,.pointer (some ⟨g0,2,none⟩),.string at',.int .i64 n1,.bool false,.bool false,.pointer (some ⟨b2,o2,none⟩),.pointer (some ⟨b1,o1,none⟩),.bool false,.bool false,undef,undef,undef,undef,undef,.bool false,u19] suf d)
 refine kA (.bool false) hk rfl (by decide) (by simp) (zA rfl) (fun W hW=>jF (c:=false) (MA.hi hk (by decide) rfl) rfl (MA.hi hk (by decide) rfl) rfl) ?_
 show wpQuiet _ _ C Q _ (MA pre [.pointer (some ⟨b2,o2,none⟩),.pointer (some ⟨b2,o2,none⟩),.pointer (some ⟨b2,o2+3,none⟩),.slice ka2 yn kc2,.pointer (some ⟨g0,2,none⟩),.string at',.int .i64 n1,.bool false,.bool false,.pointer (some ⟨b2,o2,none⟩),.pointer (some ⟨b1,o1,none⟩),.bool false,.bool false,undef,undef,undef,undef,undef,.bool false,.bool false] suf d)
 exact wpQuiet_nil (hQ _ rfl rfl)
theorem OO{C:World→Prop}{Q:Act→Prop}{pre mid suf:List Value}{d:List Deferred}(hk:pre.length=45)(hm:mid.length=20){b1 o1 b2 o2 g0 g1:Nat}{ka2:Option Addr}{yn kc2:Nat}{at' lab:ByteArray}{n1:Int}{same:Bool}
 (p9:pre[9]?=some (.pointer (some ⟨b2,o2,none⟩))) (p7:pre[7]?=some (.pointer (some ⟨b1,o1,none⟩))) (p3:pre[3]?=some (.pointer (some ⟨g0,0,none⟩))) (p10:pre[10]?=some (.pointer (some ⟨g1,0,none⟩)))
 (h3:∀W,C W→W.cell? ⟨b2,o2+3,none⟩=some (.slice ka2 yn kc2)) (hA:∀W,C W→W.cell? ⟨g0,2,none⟩=some (.string at')) (hL:∀W,C W→W.cell? ⟨g1,0,none⟩=some (.string lab))
 (hB:∀W,C W→Calls Tryz.prog 76 #[.slice ka2 yn kc2,.string at'] W fun e w'=>e=.returned (.int .i64 n1)∧C w') (hn:¬n1<0) (hE:∀W,C W→(binOp .eql 51 (.pointer (some ⟨b2,o2,none⟩)) (.pointer (some ⟨b1,o1,none⟩))).run Tryz.prog W=.ok (.bool true) W) (hs:(at'.toList==lab.toList)=same)
 (hQ:∀m:List Value,m.length=20→m[19]?=some (.bool same)→Q (MA pre m suf d)):wpQuiet Tryz.prog mvAL.toArray C Q mvAL (MA pre mid suf d):=by
 obtain⟨u0,u1,u2,u3,u4,u5,u6,u7,u8,u9,u10,u11,u12,u13,u14,u15,u16,u17,u18,u19,rfl⟩:=DG hm
 refine kA (.pointer (some ⟨b2,o2,none⟩)) hk rfl (by decide) (by simp) (zA rfl) (fun W hW=>aB (MA.lo p9)) ?_
 show wpQuiet _ _ C Q _ (MA pre [.pointer (some ⟨b2,o2,none⟩),u1,u2,u3,u4,u5,u6,u7,u8,u9,u10,u11,u12,u13,u14,u15,u16,u17,u18,u19] suf d)
 refine kA (.pointer (some ⟨b2,o2,none⟩)) hk rfl (by decide) (by simp) (zA rfl) (fun W hW=>QD (MA.hi hk (by decide) rfl)) ?_
 show wpQuiet _ _ C Q _ (MA pre [.pointer (some ⟨b2,o2,none⟩),.pointer (some ⟨b2,o2,none⟩),u2,u3,u4,u5,u6,u7,u8,u9,u10,u11,u12,u13,u14,u15,u16,u17,u18,u19] suf d)
 refine kA (.pointer (some ⟨b2,o2+3,none⟩)) hk rfl (by decide) (by simp) (zA rfl) (fun W hW=>IC (MA.hi hk (by decide) rfl)) ?_
 show wpQuiet _ _ C Q _ (MA pre [.pointer (some ⟨b2,o2,none⟩),.pointer (some ⟨b2,o2,none⟩),.pointer (some ⟨b2,o2+3,none⟩),u3,u4,u5,u6,u7,u8,u9,u10,u11,u12,u13,u14,u15,u16,u17,u18,u19] suf d)
 refine kA (.slice ka2 yn kc2) hk rfl (by decide) (by simp) (zA rfl) (fun W hW=>NE (MA.hi hk (by decide) rfl) (h3 W hW)) ?_
 show wpQuiet _ _ C Q _ (MA pre [.pointer (some ⟨b2,o2,none⟩),.pointer (some ⟨b2,o2,none⟩),.pointer (some ⟨b2,o2+3,none⟩),.slice ka2 yn kc2,u4,u5,u6,u7,u8,u9,u10,u11,u12,u13,u14,u15,u16,u17,u18,u19] suf d)
 refine kA (.pointer (some ⟨g0,2,none⟩)) hk rfl (by decide) (by simp) (zA rfl) (fun W hW=>FG (MA.lo p3)) ?_
 show wpQuiet _ _ C Q _ (MA pre [.pointer (some ⟨b2,o2,none⟩),.pointer (some ⟨b2,o2,none⟩),.pointer (some ⟨b2,o2+3,none⟩),.slice ka2 yn kc2,.pointer (some ⟨g0,2,none⟩),u5,u6,u7,u8,u9,u10,u11,u12,u13,u14,u15,u16,u17,u18,u19] suf d)
 refine kA (.string at') hk rfl (by decide) (by simp) (zA rfl) (fun W hW=>ZF (MA.hi hk (by decide) rfl) (hA W hW)) ?_
 show wpQuiet _ _ C Q _ (MA pre [.pointer (some ⟨b2,o2,none⟩),.pointer (some ⟨b2,o2,none⟩),.pointer (some ⟨b2,o2+3,none⟩),.slice ka2 yn kc2,.pointer (some ⟨g0,2,none⟩),.string at',u6,u7,u8,u9,u10,u11,u12,u13,u14,u15,u16,u17,u18,u19] suf d)
 refine BE 76 #[.slice ka2 yn kc2,.string at'] (.int .i64 n1) hk rfl (by decide) (by simp) (zA rfl) (fun W hW=>zD (MA.hi hk (by decide) rfl) (MA.hi hk (by decide) rfl) rfl) (fun W hW=>hB W hW) ?_
 show wpQuiet _ _ C Q _ (MA pre [.pointer (some ⟨b2,o2,none⟩),.pointer (some ⟨b2,o2,none⟩),.pointer (some ⟨b2,o2+3,none⟩),.slice ka2 yn kc2,.pointer (some ⟨g0,2,none⟩),.string at',.int .i64 n1,u7,u8,u9,u10,u11,u12,u13,u14,u15,u16,u17,u18,u19] suf d)
 refine kA (.bool false) hk rfl (by decide) (by simp) (zA rfl) (fun W hW=>TP (MA.hi hk (by decide) rfl) rfl (by simp[hn])) ?_
 show wpQuiet _ _ C Q _ (MA pre [.pointer (some ⟨b2,o2,none⟩),.pointer (some ⟨b2,o2,none⟩),.pointer (some ⟨b2,o2+3,none⟩),.slice ka2 yn kc2,.pointer (some ⟨g0,2,none⟩),.string at',.int .i64 n1,.bool false,u8,u9,u10,u11,u12,u13,u14,u15,u16,u17,u18,u19] suf d)
 refine kA (.bool false) hk rfl (by decide) (by simp) (zA rfl) (fun W hW=>aB (MA.hi hk (by decide) rfl)) ?_
 show wpQuiet _ _ C Q _ (MA pre [.pointer (some ⟨b2,o2,none⟩),.pointer (some ⟨b2,o2,none⟩),.pointer (some ⟨b2,o2+3,none⟩),.slice ka2 yn kc2,.pointer (some ⟨g0,2,none⟩),.string at',.int .i64 n1,.bool false,.bool false,u9,u10,u11,u12,u13,u14,u15,u16,u17,u18,u19] suf d)
 refine kA (.pointer (some ⟨b2,o2,none⟩)) hk rfl (by decide) (by simp) (VA (n:=8) (j:=53) rfl rfl hk (by decide) rfl (by decide)) (fun W hW=>aB (MA.lo p9)) ?_
 show wpQuiet _ _ C Q _ (MA pre [.pointer (some ⟨b2,o2,none⟩),.pointer (some ⟨b2,o2,none⟩),.pointer (some ⟨b2,o2+3,none⟩),.slice ka2 yn kc2,.pointer (some ⟨g0,2,none⟩),.string at',.int .i64 n1,.bool false,.bool false,.pointer (some ⟨b2,o2,none⟩),u10,u11,u12,u13,u14,u15,u16,u17,u18,u19] suf d)
 refine kA (.pointer (some ⟨b1,o1,none⟩)) hk rfl (by decide) (by simp) (VA (n:=8) (j:=53) rfl rfl hk (by decide) rfl (by decide)) (fun W hW=>aB (MA.lo p7)) ?_
 show wpQuiet _ _ C Q _ (MA pre [.pointer (some ⟨b2,o2,none⟩),.pointer (some ⟨b2,o2,none⟩),.pointer (some ⟨b2,o2+3,none⟩),.slice ka2 yn kc2,.pointer (some ⟨g0,2,none⟩),.string at',.int .i64 n1,.bool false,.bool false,.pointer (some ⟨b2,o2,none⟩),.pointer (some ⟨b1,o1,none⟩),u11,u12,u13,u14,u15,u16,u17,u18,u19] suf d)
 refine kA (.bool true) hk rfl (by decide) (by simp) (VA (n:=8) (j:=53) rfl rfl hk (by decide) rfl (by decide)) (fun W hW=>MM (MA.hi hk (by decide) rfl) (MA.hi hk (by decide) rfl) rfl (hE W hW)) ?_
 show wpQuiet _ _ C Q _ (MA pre [.pointer (some ⟨b2,o2,none⟩),.pointer (some ⟨b2,o2,none⟩),.pointer (some ⟨b2,o2+3,none⟩),.slice ka2 yn kc2,.pointer (some ⟨g0,2,none⟩),.string at',.int .i64 n1,.bool false,.bool false,.pointer (some ⟨b2,o2,none⟩),.pointer (some ⟨b1,o1,none⟩),.bool true,u12,u13,u14,u15,u16,u17,u18,u19] suf d)
 refine kA (.bool true) hk rfl (by decide) (by simp) (VA (n:=8) (j:=53) rfl rfl hk (by decide) rfl (by decide)) (fun W hW=>aB (MA.hi hk (by decide) rfl)) ?_
 show wpQuiet _ _ C Q _ (MA pre [.pointer (some ⟨b2,o2,none⟩),.pointer (some ⟨b2,o2,none⟩),.pointer (some ⟨b2,o2+3,none⟩),.slice ka2 yn kc2,.pointer (some ⟨g0,2,none⟩),.string at',.int .i64 n1,.bool false,.bool false,.pointer (some ⟨b2,o2,none⟩),.pointer (some ⟨b1,o1,none⟩),.bool true,.bool true,u13,u14,u15,u16,u17,u18,u19] suf d)
 refine kA (.pointer (some ⟨g0,2,none⟩)) hk rfl (by decide) (by simp) (VA (n:=12) (j:=57) rfl rfl hk (by decide) rfl (by decide)) (fun W hW=>FG (MA.lo p3)) ?_
 show wpQuiet _ _ C Q _ (MA pre [.pointer (some ⟨b2,o2,none⟩),.pointer (some ⟨b2,o2,none⟩),.pointer (some ⟨b2,o2+3,none⟩),.slice ka2 yn kc2,.pointer (some ⟨g0,2,none⟩),.string at',.int .i64 n1,.bool false,.bool false,.pointer (some ⟨b2,o2,none⟩),.pointer (some ⟨b1,o1,none⟩),.bool true,.bool true,.pointer (some ⟨g0,2,none⟩),u14,u15,u16,u17,u18,u19] suf d)
 refine kA (.string at') hk rfl (by decide) (by simp) (VA (n:=12) (j:=57) rfl rfl hk (by decide) rfl (by decide)) (fun W hW=>ZF (MA.hi hk (by decide) rfl) (hA W hW)) ?_
 show wpQuiet _ _ C Q _ (MA pre [.pointer (some ⟨b2,o2,none⟩),.pointer (some ⟨b2,o2,none⟩),.pointer (some ⟨b2,o2+3,none⟩),.slice ka2 yn kc2,.pointer (some ⟨g0,2,none⟩),.string at',.int .i64 n1,.bool false,.bool false,.pointer (some ⟨b2,o2,none⟩),.pointer (some ⟨b1,o1,none⟩),.bool true,.bool true,.pointer (some ⟨g0,2,none⟩),.string at',u15,u16,u17,u18,u19] suf d)
 refine kA (.pointer (some ⟨g1,0,none⟩)) hk rfl (by decide) (by simp) (VA (n:=12) (j:=57) rfl rfl hk (by decide) rfl (by decide)) (fun W hW=>NJ (MA.lo p10)) ?_
 show wpQuiet _ _ C Q _ (MA pre [.pointer (some ⟨b2,o2,none⟩),.pointer (some ⟨b2,o2,none⟩),.pointer (some ⟨b2,o2+3,none⟩),.slice ka2 yn kc2,.pointer (some ⟨g0,2,none⟩),.string at',.int .i64 n1,.bool false,.bool false,.pointer (some ⟨b2,o2,none⟩),.pointer (some ⟨b1,o1,none⟩),.bool true,.bool true,.pointer (some ⟨g0,2,none⟩),.string at',.pointer (some ⟨g1,0,none⟩),u16,u17,u18,u19] suf d)
 refine kA (.string lab) hk rfl (by decide) (by simp) (VA (n:=12) (j:=57) rfl rfl hk (by decide) rfl (by decide)) (fun W hW=>ZF (MA.hi hk (by decide) rfl) (hL W hW)) ?_
 show wpQuiet _ _ C Q _ (MA pre [.pointer (some ⟨b2,o2,none⟩),.pointer (some ⟨b2,o2,none⟩),.pointer (some ⟨b2,o2+3,none⟩),.slice ka2 yn kc2,.pointer (some ⟨g0,2,none⟩),.string at',.int .i64 n1,.bool false,.bool false,.pointer (some ⟨b2,o2,none⟩),.pointer (some ⟨b1,o1,none⟩),.bool true,.bool true,.pointer (some ⟨g0,2,none⟩),.string at',.pointer (some ⟨g1,0,none⟩),.string lab,u17,u18,u19] suf d)
 refine kA (.bool same) hk rfl (by decide) (by simp) (VA (n:=12) (j:=57) rfl rfl hk (by decide) rfl (by decide)) (fun W hW=>qU (MA.hi hk (by decide) rfl) (MA.hi hk (by decide) rfl) hs) ?_
 show wpQuiet _ _ C Q _ (MA pre [.pointer (some ⟨b2,o2,none⟩),.pointer (some ⟨b2,o2,none⟩),.pointer (some ⟨b2,o2+3,none⟩),.slice ka2 yn kc2,.pointer (some ⟨g0,2,none⟩),.string at',.int .i64 n1,.bool false,.bool false,.pointer (some ⟨b2,o2,none⟩),.pointer (some ⟨b1,o1,none⟩),.bool true,.bool true,.pointer (some ⟨g0,2,none⟩),.string at',.pointer (some ⟨g1,0,none⟩),.string lab,.bool same,u18,u19] suf d)
 refine kA (.bool same) hk rfl (by decide) (by simp) (VA (n:=8) (j:=53) rfl rfl hk (by decide) rfl (by decide)) (fun W hW=>jF (c:=true) (MA.hi hk (by decide) rfl) (MA.hi hk (by decide) rfl) rfl rfl) ?_
 show wpQuiet _ _ C Q _ (MA pre [.pointer (some ⟨b2,o2,none⟩),.pointer (some ⟨b2,o2,none⟩),.pointer (some ⟨b2,o2+3,none⟩),.slice ka2 yn kc2,.pointer (some ⟨g0,2,none⟩),.string at',.int .i64 n1,.bool false,.bool false,.pointer (some ⟨b2,o2,none⟩),.pointer (some ⟨b1,o1,none⟩),.bool true,.bool true,.pointer (some ⟨g0,2,none⟩),.string at',.pointer (some ⟨g1,0,none⟩),.string lab,.bool same,.bool same,u19] suf d)
 refine kA (.bool same) hk rfl (by decide) (by simp) (zA rfl) (fun W hW=>jF (c:=false) (MA.hi hk (by decide) rfl) rfl (MA.hi hk (by decide) rfl) rfl) ?_
 show wpQuiet _ _ C Q _ (MA pre [.pointer (some ⟨b2,o2,none⟩),.pointer (some ⟨b2,o2,none⟩),.pointer (some ⟨b2,o2+3,none⟩),.slice ka2 yn kc2,.pointer (some ⟨g0,2,none⟩),.string at',.int .i64 n1,.bool false,.bool false,.pointer (some ⟨b2,o2,none⟩),.pointer (some ⟨b1,o1,none⟩),.bool true,.bool true,.pointer (some ⟨g0,2,none⟩),.string at',.pointer (some ⟨g1,0,none⟩),.string lab,.bool same,.bool same,.bool same] suf d)
 exact wpQuiet_nil (hQ _ rfl rfl)
def MU:Oper:={dst:=some 66,op:=Op.move (Operand.tmp 9),type:=51,pos:= "amend.go:107",after:=#[],guard:=none}
def NU:Oper:={dst:=some 67,op:=Op.move (Operand.tmp 7),type:=51,pos:= "amend.go:107",after:=#[],guard:=none}
def OU:Oper:={dst:=some 68,op:=Op.binOp BinOp.neq 51 (Operand.tmp 66) (Operand.tmp 67) 51,type:=4,pos:= "amend.go:107",after:=#[{on:=0,ground:=Ground.data},{on:=1,ground:=Ground.data}],guard:=none}
def PU:Oper:={dst:=some 69,op:=Op.move (Operand.tmp 68),type:=4,pos:= "amend.go:107",after:=#[{on:=2,ground:=Ground.data}],guard:=none}
def QU:Oper:={dst:=some 70,op:=Op.move (Operand.tmp 9),type:=51,pos:= "amend.go:107",after:=#[{on:=3,ground:=Ground.guard}],guard:=some (3,true)}
def RU:Oper:={dst:=some 71,op:=Op.nilCheck (Operand.tmp 70),type:=0,pos:= "amend.go:107",after:=#[{on:=4,ground:=Ground.data},{on:=3,ground:=Ground.guard}],guard:=some (3,true)}
def SU:Oper:={dst:=some 72,op:=Op.fieldAddr 25 (Operand.tmp 71) 3,type:=0,pos:= "amend.go:107",after:=#[{on:=5,ground:=Ground.data},{on:=3,ground:=Ground.guard}],guard:=some (3,true)}
def TU:Oper:={dst:=some 73,op:=Op.load 23 (Operand.tmp 72),type:=23,pos:= "amend.go:107",after:=#[{on:=6,ground:=Ground.data},{on:=3,ground:=Ground.guard}],guard:=some (3,true)}
def UU:Oper:={dst:=some 74,op:=Op.fieldAddr 25 (Operand.tmp 10) 0,type:=0,pos:= "amend.go:107",after:=#[{on:=3,ground:=Ground.guard}],guard:=some (3,true)}
def VU:Oper:={dst:=some 75,op:=Op.load 9 (Operand.tmp 74),type:=9,pos:= "amend.go:107",after:=#[{on:=8,ground:=Ground.data},{on:=3,ground:=Ground.guard}],guard:=some (3,true)}
def vT:Oper:={dst:=some 76,op:=Op.call {callee:=Callee.value (Operand.func 69),args:=#[Operand.tmp 73,Operand.tmp 75],argTypes:=#[23,9]},type:=3,pos:= "amend.go:107",after:=#[{on:=7,ground:=Ground.data},{on:=9,ground:=Ground.data},{on:=3,ground:=Ground.chain},{on:=3,ground:=Ground.guard}],guard:=some (3,true)}
def wT:Oper:={dst:=some 77,op:=Op.binOp BinOp.geq 3 (Operand.tmp 76) (Operand.const (Value.int IntKind.i64 0)) 3,type:=4,pos:= "amend.go:107",after:=#[{on:=10,ground:=Ground.data},{on:=3,ground:=Ground.guard}],guard:=some (3,true)}
def yT:Oper:={dst:=some 78,op:=Op.pick (Operand.tmp 69) (Operand.tmp 77) (Operand.const (Value.bool false)),type:=4,pos:= "amend.go:107",after:=#[{on:=3,ground:=Ground.data},{on:=11,ground:=Ground.data}],guard:=none}
def mvBL:List Oper:=[MU,NU,OU,PU,QU,RU,SU,TU,UU,VU,vT,wT,yT]
theorem WF{mid:List Value}(h:mid.length=13):∃u0 u1 u2 u3 u4 u5 u6 u7 u8 u9 u10 u11 u12:Value,mid=[u0,u1,u2,u3,u4,u5,u6,u7,u8,u9,u10,u11,u12]:=by
 match mid,h with
 | [u0,u1,u2,u3,u4,u5,u6,u7,u8,u9,u10,u11,u12],_=>exact⟨_,_,_,_,_,_,_,_,_,_,_,_,_,rfl⟩
theorem PO{C:World→Prop}{Q:Act→Prop}{pre mid suf:List Value}{d:List Deferred}(hk:pre.length=66)(hm:mid.length=13){b1 o1 b2 o2 g1:Nat}{ka2:Option Addr}{yn kc2:Nat}{lab:ByteArray}{n1:Int}{same:Bool}
 (p9:pre[9]?=some (.pointer (some ⟨b2,o2,none⟩))) (p7:pre[7]?=some (.pointer (some ⟨b1,o1,none⟩))) (p10:pre[10]?=some (.pointer (some ⟨g1,0,none⟩)))
 (h3:∀W,C W→W.cell? ⟨b2,o2+3,none⟩=some (.slice ka2 yn kc2)) (hL:∀W,C W→W.cell? ⟨g1,0,none⟩=some (.string lab))
 (hB:∀W,C W→Calls Tryz.prog 69 #[.slice ka2 yn kc2,.string lab] W fun e w'=>e=.returned (.int .i64 n1)∧C w') (hE:∀W,C W→(binOp .neq 51 (.pointer (some ⟨b2,o2,none⟩)) (.pointer (some ⟨b1,o1,none⟩))).run Tryz.prog W=.ok (.bool false) W)
 (hQ:∀m:List Value,m.length=13→m[12]?=some (.bool false)→Q (MA pre m suf d)):wpQuiet Tryz.prog mvBL.toArray C Q mvBL (MA pre mid suf d):=by
 obtain⟨u0,u1,u2,u3,u4,u5,u6,u7,u8,u9,u10,u11,u12,rfl⟩:=WF hm
 refine kA (.pointer (some ⟨b2,o2,none⟩)) hk rfl (by decide) (by simp) (zA rfl) (fun W hW=>aB (MA.lo p9)) ?_
 show wpQuiet _ _ C Q _ (MA pre [.pointer (some ⟨b2,o2,none⟩),u1,u2,u3,u4,u5,u6,u7,u8,u9,u10,u11,u12] suf d)
 refine kA (.pointer (some ⟨b1,o1,none⟩)) hk rfl (by decide) (by simp) (zA rfl) (fun W hW=>aB (MA.lo p7)) ?_
 show wpQuiet _ _ C Q _ (MA pre [.pointer (some ⟨b2,o2,none⟩),.pointer (some ⟨b1,o1,none⟩),u2,u3,u4,u5,u6,u7,u8,u9,u10,u11,u12] suf d)
 refine kA (.bool false) hk rfl (by decide) (by simp) (zA rfl) (fun W hW=>MM (MA.hi hk (by decide) rfl) (MA.hi hk (by decide) rfl) rfl (hE W hW)) ?_
 show wpQuiet _ _ C Q _ (MA pre [.pointer (some ⟨b2,o2,none⟩),.pointer (some ⟨b1,o1,none⟩),.bool false,u3,u4,u5,u6,u7,u8,u9,u10,u11,u12] suf d)
 refine kA (.bool false) hk rfl (by decide) (by simp) (zA rfl) (fun W hW=>aB (MA.hi hk (by decide) rfl)) ?_
 show wpQuiet _ _ C Q _ (MA pre [.pointer (some ⟨b2,o2,none⟩),.pointer (some ⟨b1,o1,none⟩),.bool false,.bool false,u4,u5,u6,u7,u8,u9,u10,u11,u12] suf d)
 refine uB hk rfl (by decide) (by simp) (VA (n:=3) (j:=69) rfl rfl hk (by decide) rfl (by decide)) ?_
 show wpQuiet _ _ C Q _ (MA pre [.pointer (some ⟨b2,o2,none⟩),.pointer (some ⟨b1,o1,none⟩),.bool false,.bool false,undef,u5,u6,u7,u8,u9,u10,u11,u12] suf d)
 refine uB hk rfl (by decide) (by simp) (VA (n:=3) (j:=69) rfl rfl hk (by decide) rfl (by decide)) ?_
 show wpQuiet _ _ C Q _ (MA pre [.pointer (some ⟨b2,o2,none⟩),.pointer (some ⟨b1,o1,none⟩),.bool false,.bool false,undef,undef,u6,u7,u8,u9,u10,u11,u12] suf d)
 refine uB hk rfl (by decide) (by simp) (VA (n:=3) (j:=69) rfl rfl hk (by decide) rfl (by decide)) ?_
 show wpQuiet _ _ C Q _ (MA pre [.pointer (some ⟨b2,o2,none⟩),.pointer (some ⟨b1,o1,none⟩),.bool false,.bool false,undef,undef,undef,u7,u8,u9,u10,u11,u12] suf d)
 refine uB hk rfl (by decide) (by simp) (VA (n:=3) (j:=69) rfl rfl hk (by decide) rfl (by decide)) ?_
 show wpQuiet _ _ C Q _ (MA pre [.pointer (some ⟨b2,o2,none⟩),.pointer (some ⟨b1,o1,none⟩),.bool false,.bool false,undef,undef,undef,undef,u8,u9,u10,u11,u12] suf d)
 refine uB hk rfl (by decide) (by simp) (VA (n:=3) (j:=69) rfl rfl hk (by decide) rfl (by decide)) ?_
 show wpQuiet _ _ C Q _ (MA pre [.pointer (some ⟨b2,o2,none⟩),.pointer (some ⟨b1,o1,none⟩),.bool false,.bool false,undef,undef,undef,undef,undef,u9,u10,u11,u12] suf d)
 refine uB hk rfl (by decide) (by simp) (VA (n:=3) (j:=69) rfl rfl hk (by decide) rfl (by decide)) ?_
 show wpQuiet _ _ C Q _ (MA pre [.pointer (some ⟨b2,o2,none⟩),.pointer (some ⟨b1,o1,none⟩),.bool false,.bool false,undef,undef,undef,undef,undef,undef,u10,u11,u12] suf d)
 refine uB hk rfl (by decide) (by simp) (VA (n:=3) (j:=69) rfl rfl hk (by decide) rfl (by decide)) ?_
 show wpQuiet _ _ C Q _ (MA pre [.pointer (some ⟨b2,o2,none⟩),.pointer (some ⟨b1,o1,none⟩),.bool false,.bool false,undef,undef,undef,undef,undef,undef,undef,u11,u12] suf d)
 refine uB hk rfl (by decide) (by simp) (VA (n:=3) (j:=69) rfl rfl hk (by decide) rfl (by decide)) ?_
 show wpQuiet _ _ C Q _ (MA pre [.pointer (some ⟨b2,o2,none⟩),.pointer (some ⟨b1,o1,none⟩),.bool false,.bool false,undef,undef,undef,undef,undef,undef,undef,undef,u12] suf d)
 refine kA (.bool false) hk rfl (by decide) (by simp) (zA rfl) (fun W hW=>jF (c:=false) (u:=undef) (MA.hi hk (by decide) rfl) (MA.hi hk (by decide) rfl) rfl rfl) ?_
 show wpQuiet _ _ C Q _ (MA pre [.pointer (some ⟨b2,o2,none⟩),.pointer (some ⟨b1,o1,none⟩),.bool false,.bool false,undef,undef,undef,undef,undef,undef,undef,undef,.bool false] suf d)
 exact wpQuiet_nil (hQ _ rfl rfl)
theorem sN{C:World→Prop}{Q:Act→Prop}{pre mid suf:List Value}{d:List Deferred}(hk:pre.length=66)(hm:mid.length=13){b1 o1 b2 o2 g1:Nat}{ka2:Option Addr}{yn kc2:Nat}{lab:ByteArray}{n1:Int}{same:Bool}
 (p9:pre[9]?=some (.pointer (some ⟨b2,o2,none⟩))) (p7:pre[7]?=some (.pointer (some ⟨b1,o1,none⟩))) (p10:pre[10]?=some (.pointer (some ⟨g1,0,none⟩)))
 (h3:∀W,C W→W.cell? ⟨b2,o2+3,none⟩=some (.slice ka2 yn kc2)) (hL:∀W,C W→W.cell? ⟨g1,0,none⟩=some (.string lab))
 (hB:∀W,C W→Calls Tryz.prog 69 #[.slice ka2 yn kc2,.string lab] W fun e w'=>e=.returned (.int .i64 n1)∧C w') (hE:∀W,C W→(binOp .neq 51 (.pointer (some ⟨b2,o2,none⟩)) (.pointer (some ⟨b1,o1,none⟩))).run Tryz.prog W=.ok (.bool true) W) (hs:decide (0≤n1)=same)
 (hQ:∀m:List Value,m.length=13→m[12]?=some (.bool same)→Q (MA pre m suf d)):wpQuiet Tryz.prog mvBL.toArray C Q mvBL (MA pre mid suf d):=by
 obtain⟨u0,u1,u2,u3,u4,u5,u6,u7,u8,u9,u10,u11,u12,rfl⟩:=WF hm
 refine kA (.pointer (some ⟨b2,o2,none⟩)) hk rfl (by decide) (by simp) (zA rfl) (fun W hW=>aB (MA.lo p9)) ?_
 show wpQuiet _ _ C Q _ (MA pre [.pointer (some ⟨b2,o2,none⟩),u1,u2,u3,u4,u5,u6,u7,u8,u9,u10,u11,u12] suf d)
 refine kA (.pointer (some ⟨b1,o1,none⟩)) hk rfl (by decide) (by simp) (zA rfl) (fun W hW=>aB (MA.lo p7)) ?_
 show wpQuiet _ _ C Q _ (MA pre [.pointer (some ⟨b2,o2,none⟩),.pointer (some ⟨b1,o1,none⟩),u2,u3,u4,u5,u6,u7,u8,u9,u10,u11,u12] suf d)
 refine kA (.bool true) hk rfl (by decide) (by simp) (zA rfl) (fun W hW=>MM (MA.hi hk (by decide) rfl) (MA.hi hk (by decide) rfl) rfl (hE W hW)) ?_
 show wpQuiet _ _ C Q _ (MA pre [.pointer (some ⟨b2,o2,none⟩),.pointer (some ⟨b1,o1,none⟩),.bool true,u3,u4,u5,u6,u7,u8,u9,u10,u11,u12] suf d)
 refine kA (.bool true) hk rfl (by decide) (by simp) (zA rfl) (fun W hW=>aB (MA.hi hk (by decide) rfl)) ?_
 show wpQuiet _ _ C Q _ (MA pre [.pointer (some ⟨b2,o2,none⟩),.pointer (some ⟨b1,o1,none⟩),.bool true,.bool true,u4,u5,u6,u7,u8,u9,u10,u11,u12] suf d)
 refine kA (.pointer (some ⟨b2,o2,none⟩)) hk rfl (by decide) (by simp) (VA (n:=3) (j:=69) rfl rfl hk (by decide) rfl (by decide)) (fun W hW=>aB (MA.lo p9)) ?_
 show wpQuiet _ _ C Q _ (MA pre [.pointer (some ⟨b2,o2,none⟩),.pointer (some ⟨b1,o1,none⟩),.bool true,.bool true,.pointer (some ⟨b2,o2,none⟩),u5,u6,u7,u8,u9,u10,u11,u12] suf d)
 refine kA (.pointer (some ⟨b2,o2,none⟩)) hk rfl (by decide) (by simp) (VA (n:=3) (j:=69) rfl rfl hk (by decide) rfl (by decide)) (fun W hW=>QD (MA.hi hk (by decide) rfl)) ?_
 show wpQuiet _ _ C Q _ (MA pre [.pointer (some ⟨b2,o2,none⟩),.pointer (some ⟨b1,o1,none⟩),.bool true,.bool true,.pointer (some ⟨b2,o2,none⟩),.pointer (some ⟨b2,o2,none⟩),u6,u7,u8,u9,u10,u11,u12] suf d)
 refine kA (.pointer (some ⟨b2,o2+3,none⟩)) hk rfl (by decide) (by simp) (VA (n:=3) (j:=69) rfl rfl hk (by decide) rfl (by decide)) (fun W hW=>IC (MA.hi hk (by decide) rfl)) ?_
 show wpQuiet _ _ C Q _ (MA pre [.pointer (some ⟨b2,o2,none⟩),.pointer (some ⟨b1,o1,none⟩),.bool true,.bool true,.pointer (some ⟨b2,o2,none⟩),.pointer (some ⟨b2,o2,none⟩),.pointer (some ⟨b2,o2+3,none⟩),u7,u8,u9,u10,u11,u12] suf d)
 refine kA (.slice ka2 yn kc2) hk rfl (by decide) (by simp) (VA (n:=3) (j:=69) rfl rfl hk (by decide) rfl (by decide)) (fun W hW=>NE (MA.hi hk (by decide) rfl) (h3 W hW)) ?_
 show wpQuiet _ _ C Q _ (MA pre [.pointer (some ⟨b2,o2,none⟩),.pointer (some ⟨b1,o1,none⟩),.bool true,.bool true,.pointer (some ⟨b2,o2,none⟩),.pointer (some ⟨b2,o2,none⟩),.pointer (some ⟨b2,o2+3,none⟩),.slice ka2 yn kc2,u8,u9,u10,u11,u12] suf d)
 refine kA (.pointer (some ⟨g1,0,none⟩)) hk rfl (by decide) (by simp) (VA (n:=3) (j:=69) rfl rfl hk (by decide) rfl (by decide)) (fun W hW=>NJ (MA.lo p10)) ?_
 show wpQuiet _ _ C Q _ (MA pre [.pointer (some ⟨b2,o2,none⟩),.pointer (some ⟨b1,o1,none⟩),.bool true,.bool true,.pointer (some ⟨b2,o2,none⟩),.pointer (some ⟨b2,o2,none⟩),.pointer (some ⟨b2,o2+3,none⟩),.slice ka2 yn kc2,.pointer (some ⟨g1,0,none⟩),u9,u10,u11,u12] suf d)
 refine kA (.string lab) hk rfl (by decide) (by simp) (VA (n:=3) (j:=69) rfl rfl hk (by decide) rfl (by decide)) (fun W hW=>ZF (MA.hi hk (by decide) rfl) (hL W hW)) ?_
 show wpQuiet _ _ C Q _ (MA pre [.pointer (some ⟨b2,o2,none⟩),.pointer (some ⟨b1,o1,none⟩),.bool true,.bool true,.pointer (some ⟨b2,o2,none⟩),.pointer (some ⟨b2,o2,none⟩),.pointer (some ⟨b2,o2+3,none⟩),.slice ka2 yn kc2,.pointer (some ⟨g1,0,none⟩),.string lab,u10,u11,u12] suf d)
 refine BE 69 #[.slice ka2 yn kc2,.string lab] (.int .i64 n1) hk rfl (by decide) (by simp) (VA (n:=3) (j:=69) rfl rfl hk (by decide) rfl (by decide)) (fun W hW=>NM (MA.hi hk (by decide) rfl) (MA.hi hk (by decide) rfl) rfl) (fun W hW=>hB W hW) ?_
 show wpQuiet _ _ C Q _ (MA pre [.pointer (some ⟨b2,o2,none⟩),.pointer (some ⟨b1,o1,none⟩),.bool true,.bool true,.pointer (some ⟨b2,o2,none⟩),.pointer (some ⟨b2,o2,none⟩),.pointer (some ⟨b2,o2+3,none⟩),.slice ka2 yn kc2,.pointer (some ⟨g1,0,none⟩),.string lab,.int .i64 n1,u11,u12] suf d)
 refine kA (.bool same) hk rfl (by decide) (by simp) (VA (n:=3) (j:=69) rfl rfl hk (by decide) rfl (by decide)) (fun W hW=>xR (MA.hi hk (by decide) rfl) rfl hs) ?_
 show wpQuiet _ _ C Q _ (MA pre [.pointer (some ⟨b2,o2,none⟩),.pointer (some ⟨b1,o1,none⟩),.bool true,.bool true,.pointer (some ⟨b2,o2,none⟩),.pointer (some ⟨b2,o2,none⟩),.pointer (some ⟨b2,o2+3,none⟩),.slice ka2 yn kc2,.pointer (some ⟨g1,0,none⟩),.string lab,.int .i64 n1,.bool same,u12] suf d)
 refine kA (.bool same) hk rfl (by decide) (by simp) (zA rfl) (fun W hW=>jF (c:=true) (MA.hi hk (by decide) rfl) (MA.hi hk (by decide) rfl) rfl rfl) ?_
 show wpQuiet _ _ C Q _ (MA pre [.pointer (some ⟨b2,o2,none⟩),.pointer (some ⟨b1,o1,none⟩),.bool true,.bool true,.pointer (some ⟨b2,o2,none⟩),.pointer (some ⟨b2,o2,none⟩),.pointer (some ⟨b2,o2+3,none⟩),.slice ka2 yn kc2,.pointer (some ⟨g1,0,none⟩),.string lab,.int .i64 n1,.bool same,.bool same] suf d)
 exact wpQuiet_nil (hQ _ rfl rfl)
end Go.Proofs.YtpbolcjcmkmalaaGreatDoor

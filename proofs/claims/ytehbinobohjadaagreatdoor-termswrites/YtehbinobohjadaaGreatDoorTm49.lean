import Derived.Test.YtehbinobohjadaaGreatDoorTm00
import Derived.Test.YtehbinobohjadaaGreatDoorTm44
import Derived.Test.YtehbinobohjadaaGreatDoorTm48
import Derived.Test.YtehbinobohjadaaGreatDoorTm47
import Derived.ProofKit
import Derived.OpenShut
import Derived.Stop.Joined
import Derived.Lib.LaidTab
import Derived.Lib.ItoaNum
import Derived.Lib.ItoaMem
import Derived.MakeChecks
import Derived.LaidMore
import Derived.HandedShaped
import Derived.Shelf.Vars
set_option maxHeartbeats 20000000
set_option maxRecDepth 20000
namespace Go.Proofs.YtehbinobohjadaaGreatDoor
open Go.RowKit Go.Sort Go.Extern.Stop Go.Stop Go.Extern
set_option linter.unusedSectionVars false
variable [Inhabited TP]
structure LawW(w:World):Prop where
 g:GlobQ w
 t:TabW w
theorem LawW.step{w V:World}(h:LawW w)(hb:Below w.heap.size w V):LawW V:=⟨h.g.step hb,h.t.below hb h.t.lt⟩
def DP(w:World)(e:Ending)(w':World):Prop:=e=.returned (.bool true)∧Below w.heap.size w w'
structure LawT(w:World)(p:Nat→Addr):Prop where
 l:LawW w
 d:Laid w p
 e:(default:TP).a=p 0
theorem LawT.step{w V:World}{p:Nat→Addr}(h:LawT w p)(hb:Below w.heap.size w V):LawT V p:=⟨h.l.step hb,h.d.below hb,h.e⟩
theorem wN{w:World}{p:Nat→Addr}(hl:LawT w p):Calls Tryz.prog 4 #[.pointer none] w (DP w):=by
 have HL:=aA (rQ hl.l.g)
 clear hl
 go_enter Tryz.func4,Tryz.ntmps4
 go_wp2_with (go_at_call 5;refine HL.out.mono ?_;rintro e V ⟨rfl,hb⟩;(have HB:=aA hb);clear hb)
 go_ret
 exact⟨rfl,HB.out⟩
theorem vN{x:SentT}(hO:SOk x){w:World}{p:Nat→Addr}(hl:LawT w p){b o:Nat}{ca sa:Option Addr}{cc sc:Nat}{oa:Option Addr}{oc:Nat}{cs:Array Value}(hT:STc w (·<w.heap.size) x ca sa cc sc oa oc cs)(hno:oa=none→oc=0)(hcl:∀(i:Nat) (v:Value),cs[i]?=some v→w.cell? ⟨b,o+i,none⟩=some v):
 Calls Tryz.prog 4 #[.pointer (some ⟨b,o,none⟩)] w (DP w):=by
 have e1:=hT.eq
 have hbw:b<w.heap.size:=fB (hcl 0 (.string x.kind) (by rw[e1];rfl))
 have HCl:Hid (∀V,Below w.heap.size w V→∀(i:Nat) (v:Value),cs[i]?=some v→V.cell? ⟨b,o+i,none⟩=some v):=fun V hV i v h=>(hV.cell (p:=⟨b,o+i,none⟩) hbw).trans (hcl i v h)
 have HC:Hid (∀V,Below w.heap.size w V→V.cell? ⟨b,o+5,none⟩=some (.string x.cond.kind)∧V.cell? ⟨b,o+6,none⟩=some (.string x.cond.word)∧V.cell? ⟨b,o+7,none⟩=some (.int .i64 x.cond.num)∧V.cell? ⟨b,o+8,none⟩=some (.slice ca x.cond.kids.length cc)∧V.cell? ⟨b,o+9,none⟩=some (.string x.sum.kind)∧V.cell? ⟨b,o+10,none⟩=some (.string x.sum.word)∧V.cell? ⟨b,o+11,none⟩=some (.int .i64 x.sum.num)∧V.cell? ⟨b,o+12,none⟩=some (.slice sa x.sum.kids.length sc)∧V.cell? ⟨b,o+14,none⟩=some (.slice oa x.over.length oc)):=fun V hV=>
  ⟨HCl.out V hV 5 _ (by rw[e1];rfl),HCl.out V hV 6 _ (by rw[e1];rfl),HCl.out V hV 7 _ (by rw[e1];rfl),HCl.out V hV 8 _ (by rw[e1];rfl),HCl.out V hV 9 _ (by rw[e1];rfl),HCl.out V hV 10 _ (by rw[e1];rfl),HCl.out V hV 11 _ (by rw[e1];rfl),HCl.out V hV 12 _ (by rw[e1];rfl),HCl.out V hV 14 _ (by rw[e1];rfl)⟩
 have HTt:Hid (∀V,Below w.heap.size w V→STc V (·<V.heap.size) x ca sa cc sc oa oc cs):=fun V hV=>hT.grow hV
 have HL:=aA (rQ hl.l.g)
 have HF1:Hid (∀V,Below w.heap.size w V→Calls Tryz.prog 10 #[.agg #[.string x.cond.kind,.string x.cond.word,.int .i64 x.cond.num,.slice ca x.cond.kids.length cc]] V fun e w'=>∃b:Bool,e=.returned (.bool b)∧(b=true→SmT x.cond)∧Below V.heap.size V w'):=fun V hV=>UT hO.cond (HTt.out V hV).nc
 have HF2:Hid (∀V,Below w.heap.size w V→Calls Tryz.prog 10 #[.agg #[.string x.sum.kind,.string x.sum.word,.int .i64 x.sum.num,.slice sa x.sum.kids.length sc]] V fun e w'=>∃b:Bool,e=.returned (.bool b)∧(b=true→SmT x.sum)∧Below V.heap.size V w'):=fun V hV=>UT hO.sum (HTt.out V hV).ns
 have HLt:=aA hl
 have HOk:=aA hO
 have HNo:=aA hno
 clear hl hO hT hno hcl e1
 generalize hck:x.cond.kind=ck at HC HF1
 generalize hcw:x.cond.word=cw at HC HF1
 generalize hcn:x.cond.num=cn at HC HF1
 generalize hkl:x.cond.kids.length=kl at HC HF1
 generalize hsk:x.sum.kind=sk at HC HF2
 generalize hsw:x.sum.word=sw at HC HF2
 generalize hsn:x.sum.num=sn at HC HF2
 generalize hsl:x.sum.kids.length=sl at HC HF2
 obtain⟨ol,hol⟩:∃ol,ol=x.over.length:=⟨_,rfl⟩
 rw[←hol] at HC
 have HOl:=aA hol
 clear hck hcw hcn hkl hsk hsw hsn hsl hol
 go_enter Tryz.func4,Tryz.ntmps4
 go_upto_region 4 with (go_at_call 5;refine HL.out.mono ?_;rintro e V1 ⟨rfl,hb⟩;(have HB1:=aA hb);clear hb)
 obtain⟨c5,c6,c7,c8,c9,c10,c11,c12,c14⟩:=HC.out V1 HB1.out
 go_upto_region 5 with (go_at_call 10;refine(HF1.out V1 HB1.out).mono ?_;rintro e V2 ⟨b1,rfl,hb1,hb⟩;(have HB2:=aA (HB1.out.trans (hb.mono HB1.out.size)));(have HS1:=aA hb1);clear hb hb1)
 clear c5 c6 c7 c8 c9 c10 c11 c12 c14 HF1
 obtain⟨c5,c6,c7,c8,c9,c10,c11,c12,c14⟩:=HC.out V2 HB2.out
 go_upto_region 6 with (go_at_call 10;refine(HF2.out V2 HB2.out).mono ?_;rintro e V3 ⟨b2,rfl,hb2,hb⟩;(have HB3:=aA (HB2.out.trans (hb.mono HB2.out.size)));(have HS2:=aA hb2);clear hb hb2)
 clear c5 c6 c7 c8 c9 c10 c11 c12 c14 HF2 HB1 HB2
 obtain⟨c5,c6,c7,c8,c9,c10,c11,c12,c14⟩:=HC.out V3 HB3.out
 clear c5 c6 c7 c8 c9 c10 c11 c12
 cases b1 with
 |false=>
  go_wp2
  go_ret
  exact⟨rfl,HB3.out⟩
 |true=>
  cases b2 with
  |false=>
   go_wp2
   go_ret
   exact⟨rfl,HB3.out⟩
  |true=>
   by_cases h40:40<ol
   ·have h40z:(40:Int)<ol:=by omega
    go_wp2
    go_ret
    exact⟨rfl,HB3.out⟩
   ·have h40z:¬(40:Int)<ol:=by omega
    have HPg:=aA (aP (b:=b) (o:=o) (HS1.out rfl) (HS2.out rfl) (by have:=HOl.out;omega) (HTt.out V3 HB3.out) HNo.out (HCl.out V3 HB3.out))
    have HWr:Hid (∀V ca sa cc sc oa oc cs,Below w.heap.size w V→STc V (·<V.heap.size) x ca sa cc sc oa oc cs→Calls Tryz.prog 7 #[.agg cs] V (EP x (fW x) V)):=fun V ca sa cc sc oa oc cs hV h=>GT HOk.out h (HLt.out.step hV).l.g (HLt.out.step hV).l.t VV
    clear HS1 HS2 h40
    cases ho:GL x (fW x) with
    |none=>
     go_upto_region 10 with (first|(go_at_call 11;refine HPg.out.mono ?_;rintro e V4 ⟨hb,pa,qa,pc,qc,ra,rc,ds,rfl,hd⟩;(have HB4:=aA (HB3.out.trans (hb.mono HB3.out.size)));(have HD:=aA hd);clear hb hd)|(go_at_call 7;refine(HWr.out _ _ _ _ _ _ _ _ HB4.out HD.out).mono ?_;rintro e V5 ⟨hb,he⟩;rw[ho] at he;(obtain⟨pp,rfl⟩:=he);(have HB5:=aA (HB4.out.trans (hb.mono HB4.out.size)));clear hb))
     obtain⟨q,hq⟩:=pp
     subst hq
     have HCd:=aA (xS (HLt.out.step HB5.out).d)
     rw[←HLt.out.e] at HCd
     go_wp2_with (go_at_call 12;refine HCd.out.mono ?_;rintro e V6 ⟨rfl,hb⟩;(have HB6:=aA (HB5.out.trans (hb.mono HB5.out.size)));clear hb)
     go_ret
     exact⟨rfl,HB6.out⟩
    |some u=>
     obtain⟨y,L,k,hx,hP,hL⟩:=fR ho
     have HY:=aA (aI hx (aI hP hL))
     clear hx hP hL
     go_upto_region 12 with (first|(go_at_call 11;refine HPg.out.mono ?_;rintro e V4 ⟨hb,pa,qa,pc,qc,ra,rc,ds,rfl,hd⟩;(have HB4:=aA (HB3.out.trans (hb.mono HB3.out.size)));(have HD:=aA hd);clear hb hd)|(go_at_call 7;refine(HWr.out _ _ _ _ _ _ _ _ HB4.out HD.out).mono ?_;rintro e V5 ⟨hb,he⟩;rw[ho] at he;(obtain rfl:=he);(have HB5:=aA (HB4.out.trans (hb.mono HB4.out.size)));clear hb)|(go_at_call 13;refine(gJ HY.out.2.2 V5).mono ?_;rintro e V6 ⟨g,gs,rfl,hg1,hg2,hg3,hb⟩;(have HB6:=aA (HB5.out.trans (hb.mono HB5.out.size)));(have H6:=aA (aI hg2 hg3));(have hs6:=hb.size);clear hb hg2 hg3))
     obtain⟨V7,hV7⟩:∃V7,V7=V6.alloc (.cells #[.int .i64 0,.int .i64 (-1)] 51):=⟨_,rfl⟩
     rw[←hV7]
     have hb7:Below V6.heap.size V6 V7:=by rw[hV7];exact bA _ _
     have f7:V7.cell? ⟨V6.heap.size,0,none⟩=some (.int .i64 0):=by rw[hV7];simp
     have hs7:V6.heap.size<V7.heap.size:=by rw[hV7];simp
     have hB7:Below w.heap.size w V7:=HB6.out.trans (hb7.mono HB6.out.size)
     obtain⟨ga,ha,gc,hc,ia,ic,hS6,_⟩:=H6.out.2.st HY.out.2.1.1 HY.out.2.1.2.1 HY.out.2.1.2.2
     have hSx:=HTt.out V7 hB7
     have hg7:V7.heap[g]?=some (.cells gs 47 (0,0)):=(hb7.block g (Array.getElem?_eq_some_iff.1 H6.out.1).1).trans H6.out.1
     have HSm:Hid (Calls Tryz.prog 8 #[.pointer (some ⟨g,0,none⟩),.pointer (some ⟨b,o,none⟩)] V7 fun e w'=>e=.returned (.bool true)∧Below V7.heap.size V7 w'):=by
      rw[HY.out.1] at hSx
      exact kT (hS6.grow hb7) hSx hg7 (HCl.out V7 hB7)
     have HB7:=aA hB7
     clear hV7 hb7 hB7 hS6 hSx hg7 H6 HB6
     generalize V6.heap.size=g6 at *
     go_wp2_with (go_at_call 8;refine HSm.out.mono ?_;rintro e V8 ⟨rfl,hb⟩;(have f8:=(hb.cell (p:=⟨g6,0,none⟩) hs7).trans f7);(have HB8:=aA (HB7.out.trans (hb.mono HB7.out.size)));clear hb)
     go_ret
     exact⟨rfl,HB8.out⟩
end Go.Proofs.YtehbinobohjadaaGreatDoor
namespace Go.Proofs.YtehbinobohjadaaGreatDoor
open Go.RowKit Go.ChangeShapes Go.WideShapes Go.ChangeAt Go.Lib Go.Proofs
theorem OO{W:World}(h:W.ShapedOpen Tryz.prog):∃m,W.cell? ⟨12,0,none⟩=some (.int .i64 m):=
 cell_of_shapedOpen_int (g:=12) (t:=3) (zero:=#[.int .i64 0]) h (of_decide_eq_true (by kernel_rfl)) (by kernel_rfl) rfl (by kernel_rfl) (by kernel_rfl) Tryz.underlying3
theorem rM{W:World}(h:laidMetH Tryz.prog Rows.termsWritesRow.laid W):(∃p,Laid W p)∧TabW W:=by
 obtain⟨h1,h2⟩:=WI (rest:=("math/bits.deBruijn32tab",Rows.laid_math_bits_deBruijn32tab)::("math/bits.deBruijn64tab",Rows.laid_math_bits_deBruijn64tab)::("internal/strconv.uint64pow10",Rows.laid_internal_strconv_uint64pow10)::(sentList.map (fun x=>(x.1,yR x.2.2))++[])) (h:=("errors.errorType",Rows.laid_errors_errorType)) (hs:=[]) (by kernel_rfl) (by kernel_rfl) h
 have h3:=h1.tail.tail
 refine⟨OS h3.tail h2,?_⟩
 have e:(Rows.laid_internal_strconv_uint64pow10:DataW Unit)=Lib.tabData .u64 Lib.pow10Tab:=by kernel_rfl
 rw[e] at h3
 exact Lib.tabIs_of_head (P:=Tryz.prog) (g:=13) (t:=182) (e:=176) (n:=20) (by kernel_rfl) (by kernel_rfl) (by kernel_rfl) Tryz.underlying176 (by kernel_rfl) (by kernel_rfl) h3
theorem uN{W:World}(h:laidMetH Tryz.prog Rows.termsWritesRow.laid W)(hs:W.ShapedOpen Tryz.prog):∃p:Nat→Addr,@LawT ⟨⟨p 0⟩⟩ W p:=by
 obtain⟨⟨p,hp⟩,ht⟩:=rM h
 exact⟨p,letI:Inhabited TP:=⟨⟨p 0⟩⟩;⟨⟨⟨⟨⟨p 0,rfl⟩,hp.cell 0 (by decide)⟩,⟨p 1,hp.cell 1 (by decide)⟩,OO hs⟩,ht⟩,hp,rfl⟩⟩
theorem uG{H:Type}{enc:TypeId×Value→H}{a:Assume}{C:Checked}{os:Os}{f:FuncId}{fn:Func}{s:ChangeSpec}{conds:List PathCond}{apart fresh handsOn again:Bool}{X:World→Array Value→Prop}
 (hX:∀(w w':World) (args:Array Value),w.heap=w'.heap→X w args→X w' args)
 (own:ownKnob C.prog.godebug=none) (started:os.Started) (noInit:C.prog.inits.idxOf? f=none) (hfn:C.prog.funcs[f]?=some fn)
 (witness:∃(w:World) (tape:Tape) (i:Input),w.os=os∧(w.forCall tape i).Shaped C.prog∧i.vars=[]∧Input.okWide C.prog (w.forCall tape i) .any w.heap.size f i∧
   ((s.pre enc C.prog fn conds apart (w.forCall tape i).memory i.args∧X (w.forCall tape i).memory i.args)∧sizedMet enc C.prog fn (OpenSpec.ofChange s) apart (w.forCall tape i).memory i.args)∧a.holds C.prog (lone (Frame.enter C.prog f i.args .normal) [] (w.forCall tape i)))
 (contract:∀(W:World) (base:Nat) (args:Array Value) (ds gs:List (DataW H)) (before:List MemPlace),
   (∀(j:Nat) t v,fn.params[j]?=some t→args[j]?=some v→Value.okWide C.prog W .any base t v)→
   DataW.Whole enc C.prog fn.params.toList s.vars apart W args.toList ds gs before→
   (DataW.weightsEach C.prog (fn.params.toList++s.plain.varTypes C.prog) (ds++gs)).all (·≤reachBytes)=true→
   X W args→W.ShapedOpen C.prog→
   Calls C.prog f args W fun e W'=>∃v,e=.returned v∧s.post enc C.prog fn apart fresh handsOn again W args v W'):
 ReturnsInHanded a C os f .any (fun w args=>(s.pre enc C.prog fn conds apart w args∧X w args)∧sizedMet enc C.prog fn (OpenSpec.ofChange s) apart w args) (s.post enc C.prog fn apart fresh handsOn again):=by
 refine returnsInHanded_of_calls own started noInit witness ?_
 intro w tape i _ hsh _ hok hpre _
 obtain⟨_,_,_,fn',hfn',_,_,_,_,hval⟩:=hok
 obtain rfl:fn'=fn:=Option.some.inj (hfn'.symm.trans hfn)
 obtain⟨⟨⟨ds,gs,before,hw,_⟩,hx⟩,hz⟩:=hpre
 refine(contract (w.forCall tape i) w.heap.size i.args ds gs before hval (DataW.Whole.of_heap (w':=w.forCall tape i) (by rfl) hw) (hz.weights hw) (hX _ _ _ (by rfl) hx) hsh).mono fun e W' ⟨v,he,hp⟩=>?_
 subst he
 exact ChangeSpec.post_blind hp
end Go.Proofs.YtehbinobohjadaaGreatDoor

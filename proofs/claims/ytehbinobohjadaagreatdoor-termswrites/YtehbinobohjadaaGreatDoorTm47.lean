import Derived.Test.YtehbinobohjadaaGreatDoorTm00
import Derived.Test.YtehbinobohjadaaGreatDoorTm46
import Derived.Deep.RegionLaw
import Derived.Deep.DeepCutAuto
import Derived.Deep.WholeRow
set_option maxHeartbeats 20000000
set_option maxRecDepth 20000
namespace Go.Proofs.YtehbinobohjadaaGreatDoor
open Go.RowKit
set_option linter.unusedSectionVars false
variable [Inhabited TP]
theorem jA{α:Type}{l:List α}{n:Nat}(h:l.length=n+1):∃a t,l=a::t∧t.length=n:=by
 cases l with
 |nil=>simp at h
 |cons a t=>exact⟨a,t,rfl,by simpa using h⟩
theorem TV{a:Act}{b o g:Nat}{v2:Value}(h:AtP a [(0,.pointer (some ⟨b,o,none⟩)),(2,v2),(3,.pointer (some ⟨g,0,none⟩))]):∃t1 t4 t5 t6 t7 t8 t9 t10 t11 t12 t13 t14 t15 t16 t17 t18 t19 t20 t21 t22 t23 t24 t25 t26 t27 t28 t29 t30 t31 t32 t33 t34 t35 t36 t37 t38 t39 t40 t41 t42 t43 t44 t45 t46 t47 t48 t49 t50 t51 t52 t53 t54 t55 t56 t57 t58 t59 t60 t61 t62 t63 t64 t65 t66 t67 t68:Value,a=⟨#[.pointer (some ⟨b,o,none⟩),t1,v2,.pointer (some ⟨g,0,none⟩),t4,t5,t6,t7,t8,t9,t10,t11,t12,t13,t14,t15,t16,t17,t18,t19,t20,t21,t22,t23,t24,t25,t26,t27,t28,t29,t30,t31,t32,t33,t34,t35,t36,t37,t38,t39,t40,t41,t42,t43,t44,t45,t46,t47,t48,t49,t50,t51,t52,t53,t54,t55,t56,t57,t58,t59,t60,t61,t62,t63,t64,t65,t66,t67,t68],[]⟩:=by
 obtain⟨⟨l⟩,d⟩:=a
 obtain⟨h1,h2,h3⟩:=h
 have kx:l.length=69:=h1
 clear h1
 have h2:d=[]:=h2
 subst h2
 obtain⟨t0,l0,rfl,k0⟩:=jA kx
 obtain⟨t1,l1,rfl,k1⟩:=jA k0
 obtain⟨t2,l2,rfl,k2⟩:=jA k1
 obtain⟨t3,l3,rfl,k3⟩:=jA k2
 obtain⟨t4,l4,rfl,k4⟩:=jA k3
 obtain⟨t5,l5,rfl,k5⟩:=jA k4
 obtain⟨t6,l6,rfl,k6⟩:=jA k5
 obtain⟨t7,l7,rfl,k7⟩:=jA k6
 obtain⟨t8,l8,rfl,k8⟩:=jA k7
 obtain⟨t9,l9,rfl,k9⟩:=jA k8
 obtain⟨t10,l10,rfl,k10⟩:=jA k9
 obtain⟨t11,l11,rfl,k11⟩:=jA k10
 obtain⟨t12,l12,rfl,k12⟩:=jA k11
 obtain⟨t13,l13,rfl,k13⟩:=jA k12
 obtain⟨t14,l14,rfl,k14⟩:=jA k13
 obtain⟨t15,l15,rfl,k15⟩:=jA k14
 obtain⟨t16,l16,rfl,k16⟩:=jA k15
 obtain⟨t17,l17,rfl,k17⟩:=jA k16
 obtain⟨t18,l18,rfl,k18⟩:=jA k17
 obtain⟨t19,l19,rfl,k19⟩:=jA k18
 obtain⟨t20,l20,rfl,k20⟩:=jA k19
 obtain⟨t21,l21,rfl,k21⟩:=jA k20
 obtain⟨t22,l22,rfl,k22⟩:=jA k21
 obtain⟨t23,l23,rfl,k23⟩:=jA k22
 obtain⟨t24,l24,rfl,k24⟩:=jA k23
 obtain⟨t25,l25,rfl,k25⟩:=jA k24
 obtain⟨t26,l26,rfl,k26⟩:=jA k25
 obtain⟨t27,l27,rfl,k27⟩:=jA k26
 obtain⟨t28,l28,rfl,k28⟩:=jA k27
 obtain⟨t29,l29,rfl,k29⟩:=jA k28
 obtain⟨t30,l30,rfl,k30⟩:=jA k29
 obtain⟨t31,l31,rfl,k31⟩:=jA k30
 obtain⟨t32,l32,rfl,k32⟩:=jA k31
 obtain⟨t33,l33,rfl,k33⟩:=jA k32
 obtain⟨t34,l34,rfl,k34⟩:=jA k33
 obtain⟨t35,l35,rfl,k35⟩:=jA k34
 obtain⟨t36,l36,rfl,k36⟩:=jA k35
 obtain⟨t37,l37,rfl,k37⟩:=jA k36
 obtain⟨t38,l38,rfl,k38⟩:=jA k37
 obtain⟨t39,l39,rfl,k39⟩:=jA k38
 obtain⟨t40,l40,rfl,k40⟩:=jA k39
 obtain⟨t41,l41,rfl,k41⟩:=jA k40
 obtain⟨t42,l42,rfl,k42⟩:=jA k41
 obtain⟨t43,l43,rfl,k43⟩:=jA k42
 obtain⟨t44,l44,rfl,k44⟩:=jA k43
 obtain⟨t45,l45,rfl,k45⟩:=jA k44
 obtain⟨t46,l46,rfl,k46⟩:=jA k45
 obtain⟨t47,l47,rfl,k47⟩:=jA k46
 obtain⟨t48,l48,rfl,k48⟩:=jA k47
 obtain⟨t49,l49,rfl,k49⟩:=jA k48
 obtain⟨t50,l50,rfl,k50⟩:=jA k49
 obtain⟨t51,l51,rfl,k51⟩:=jA k50
 obtain⟨t52,l52,rfl,k52⟩:=jA k51
 obtain⟨t53,l53,rfl,k53⟩:=jA k52
 obtain⟨t54,l54,rfl,k54⟩:=jA k53
 obtain⟨t55,l55,rfl,k55⟩:=jA k54
 obtain⟨t56,l56,rfl,k56⟩:=jA k55
 obtain⟨t57,l57,rfl,k57⟩:=jA k56
 obtain⟨t58,l58,rfl,k58⟩:=jA k57
 obtain⟨t59,l59,rfl,k59⟩:=jA k58
 obtain⟨t60,l60,rfl,k60⟩:=jA k59
 obtain⟨t61,l61,rfl,k61⟩:=jA k60
 obtain⟨t62,l62,rfl,k62⟩:=jA k61
 obtain⟨t63,l63,rfl,k63⟩:=jA k62
 obtain⟨t64,l64,rfl,k64⟩:=jA k63
 obtain⟨t65,l65,rfl,k65⟩:=jA k64
 obtain⟨t66,l66,rfl,k66⟩:=jA k65
 obtain⟨t67,l67,rfl,k67⟩:=jA k66
 obtain⟨t68,l68,rfl,k68⟩:=jA k67
 obtain rfl:=List.eq_nil_of_length_eq_zero k68
 have e0:some t0=some (.pointer (some ⟨b,o,none⟩)):=h3 0 _ (by simp)
 have e2:some t2=some v2:=h3 2 _ (by simp)
 have e3:some t3=some (.pointer (some ⟨g,0,none⟩)):=h3 3 _ (by simp)
 injection e0 with e0
 injection e2 with e2
 injection e3 with e3
 subst e0 e2 e3
 exact⟨t1,t4,t5,t6,t7,t8,t9,t10,t11,t12,t13,t14,t15,t16,t17,t18,t19,t20,t21,t22,t23,t24,t25,t26,t27,t28,t29,t30,t31,t32,t33,t34,t35,t36,t37,t38,t39,t40,t41,t42,t43,t44,t45,t46,t47,t48,t49,t50,t51,t52,t53,t54,t55,t56,t57,t58,t59,t60,t61,t62,t63,t64,t65,t66,t67,t68,rfl⟩
theorem pI{U:World}{g b i j k l:Nat}{u v z:Value}(h:¬b=g):(((U.setCell ⟨g,i,none⟩ u).setCell ⟨g,j,none⟩ v).setCell ⟨g,k,none⟩ z).drew.cell? ⟨b,l,none⟩=U.cell? ⟨b,l,none⟩:=by
 show (((U.setCell ⟨g,i,none⟩ u).setCell ⟨g,j,none⟩ v).setCell ⟨g,k,none⟩ z).cell? ⟨b,l,none⟩=U.cell? ⟨b,l,none⟩
 have hn:∀m,(⟨g,m,none⟩:Addr)≠⟨b,l,none⟩:=fun m e=>h (by injection e with e _ _;exact e.symm)
 rw[World.cell?_setCell_other _ _ _ _ (hn _),World.cell?_setCell_other _ _ _ _ (hn _),World.cell?_setCell_other _ _ _ _ (hn _)]
def JW(x:SentT)(w:World)(e:Ending)(w':World):Prop:=Below w.heap.size w w'∧∃ca sa cc sc oa oc cs,e=.returned (.agg cs)∧STc w' (·<w'.heap.size) x ca sa cc sc oa oc cs
theorem aP{x:SentT}(hc:SmT x.cond)(hs:SmT x.sum)(ho:x.over.length≤1000){w:World}{b o:Nat}{ca sa:Option Addr}{cc sc:Nat}{oa:Option Addr}{oc:Nat}{cs:Array Value}(hT:STc w (·<w.heap.size) x ca sa cc sc oa oc cs)(hno:oa=none→oc=0)(hcl:∀(i:Nat) (v:Value),cs[i]?=some v→w.cell? ⟨b,o+i,none⟩=some v):
 Calls Tryz.prog 11 #[.pointer (some ⟨b,o,none⟩)] w (JW x w):=by
 obtain⟨W,hW⟩:∃W,W=w.alloc (.cells #[.string ⟨#[]⟩,.string ⟨#[]⟩,.int .i64 0,.bool false,.string ⟨#[]⟩,.string ⟨#[]⟩,.string ⟨#[]⟩,.int .i64 0,.slice none 0 0,.string ⟨#[]⟩,.string ⟨#[]⟩,.int .i64 0,.slice none 0 0,.int .i64 0,.slice none 0 0,.int .i64 0,.int .i64 0,.int .i64 0,.string ⟨#[]⟩] 30):=⟨_,rfl⟩
 have hb:Rc w W:=by rw[hW];exact(Rc.refl w).alloc _
 have b1:W.heap[w.heap.size]?=some (.cells #[.string ⟨#[]⟩,.string ⟨#[]⟩,.int .i64 0,.bool false,.string ⟨#[]⟩,.string ⟨#[]⟩,.string ⟨#[]⟩,.int .i64 0,.slice none 0 0,.string ⟨#[]⟩,.string ⟨#[]⟩,.int .i64 0,.slice none 0 0,.int .i64 0,.slice none 0 0,.int .i64 0,.int .i64 0,.int .i64 0,.string ⟨#[]⟩] 30 (0,0)):=by rw[hW];exact heap_alloc_new _ _
 have e1:=hT.eq
 have HTW:=aA (hT.grow hb)
 have HCo:Hid (∀V,Rc W V→Calls Tryz.prog 26 #[.agg #[.string x.cond.kind,.string x.cond.word,.int .i64 x.cond.num,.slice ca x.cond.kids.length cc]] V (sW x.cond V)):=fun V hV=>XV _ _ rfl hc V ca cc (HTW.out.grow hV).nc
 have HSu:Hid (∀V,Rc W V→Calls Tryz.prog 26 #[.agg #[.string x.sum.kind,.string x.sum.word,.int .i64 x.sum.num,.slice sa x.sum.kids.length sc]] V (sW x.sum V)):=fun V hV=>XV _ _ rfl hs V sa sc (HTW.out.grow hV).ns
 have hbw:b<w.heap.size:=fB (hcl 0 (.string x.kind) (by rw[e1];rfl))
 have HCl:Hid (∀V,Rc W V→V.cell? ⟨b,o,none⟩=some (.string x.kind)∧V.cell? ⟨b,o+1,none⟩=some (.string x.name)∧V.cell? ⟨b,o+2,none⟩=some (.int .i64 x.strength)∧V.cell? ⟨b,o+3,none⟩=some (.bool x.positive)∧V.cell? ⟨b,o+4,none⟩=some (.string x.head)∧V.cell? ⟨b,o+5,none⟩=some (.string x.cond.kind)∧V.cell? ⟨b,o+6,none⟩=some (.string x.cond.word)∧V.cell? ⟨b,o+7,none⟩=some (.int .i64 x.cond.num)∧V.cell? ⟨b,o+8,none⟩=some (.slice ca x.cond.kids.length cc)∧V.cell? ⟨b,o+9,none⟩=some (.string x.sum.kind)∧V.cell? ⟨b,o+10,none⟩=some (.string x.sum.word)∧V.cell? ⟨b,o+11,none⟩=some (.int .i64 x.sum.num)∧V.cell? ⟨b,o+12,none⟩=some (.slice sa x.sum.kids.length sc)∧V.cell? ⟨b,o+13,none⟩=some (.int .i64 x.way)∧V.cell? ⟨b,o+14,none⟩=some (.slice oa x.over.length oc)∧V.cell? ⟨b,o+15,none⟩=some (.int .i64 x.tn)∧V.cell? ⟨b,o+16,none⟩=some (.int .i64 x.tu)∧V.cell? ⟨b,o+17,none⟩=some (.int .i64 x.tr)∧V.cell? ⟨b,o+18,none⟩=some (.string x.els)):=fun V hV=>by
  have h9:∀(i:Nat) (v:Value),cs[i]?=some v→V.cell? ⟨b,o+i,none⟩=some v:=fun i v h=>((Rc.trans hb hV).cell (p:=⟨b,o+i,none⟩) hbw).trans (hcl i v h)
  exact⟨h9 0 _ (by rw[e1];rfl),h9 1 _ (by rw[e1];rfl),h9 2 _ (by rw[e1];rfl),h9 3 _ (by rw[e1];rfl),h9 4 _ (by rw[e1];rfl),h9 5 _ (by rw[e1];rfl),h9 6 _ (by rw[e1];rfl),h9 7 _ (by rw[e1];rfl),h9 8 _ (by rw[e1];rfl),h9 9 _ (by rw[e1];rfl),h9 10 _ (by rw[e1];rfl),h9 11 _ (by rw[e1];rfl),h9 12 _ (by rw[e1];rfl),h9 13 _ (by rw[e1];rfl),h9 14 _ (by rw[e1];rfl),h9 15 _ (by rw[e1];rfl),h9 16 _ (by rw[e1];rfl),h9 17 _ (by rw[e1];rfl),h9 18 _ (by rw[e1];rfl)⟩
 have HOv:Hid (∀V,Rc W V→RdS stE V (·<V.heap.size) (.slice oa x.over.length oc) x.over):=fun V hV=>(HTW.out.grow hV).ov
 have HO:=aA ho
 have HNo:=aA hno
 have HB:=aA (aI hb b1)
 have HWs:Hid (W.heap.size=w.heap.size+1):=by rw[hW];exact(show _=_ by simp)
 have HW:=aA hW
 have HBw:=aA hbw
 clear hW hb b1 hT hc hs ho hno e1 hcl HTW hbw
 go_enter Tryz.func11,Tryz.ntmps11
 go_upto_region 1 with fail
 rw[←HW.out]
 refine wp_region_noPanic ?_
 refine wp_region_held_drew (S:=Rc W) (by kernel_rfl) ((Rc.refl W).drew) (fun _=>?_)
 refine XO (W:=W) (x:=x) (b:=b) (o:=o) (ca:=ca) (sa:=sa) (cc:=cc) (sc:=sc) (v2:=.pointer (some ⟨w.heap.size,0,none⟩)) ⟨fun V hV=>?_,HCo.out,HSu.out⟩ (fun _ _ _ _ _ h=>h) ?_ ⟨rfl,rfl,?_⟩ ((Rc.refl W).drew)
 ·obtain⟨c0,c1,c2,c3,c4,c5,c6,c7,c8,c9,c10,c11,c12,c13,c14,c15,c16,c17,c18⟩:=HCl.out V hV
  exact⟨c0,c1,c2,c3,c4,c5,c6,c7,c8,c9,c10,c11,c12,c13,c18⟩
 rotate_left
 ·intro k v hk
  simp only[List.mem_cons,List.not_mem_nil,or_false,Prod.mk.injEq] at hk
  rcases hk with ⟨rfl,rfl⟩|⟨rfl,rfl⟩<;>rfl
 intro a V8 g ka ma kc mc ha hA
 refine NoPanic.normal ?_
 obtain⟨t1,t4,t5,t6,t7,t8,t9,t10,t11,t12,t13,t14,t15,t16,t17,t18,t19,t20,t21,t22,t23,t24,t25,t26,t27,t28,t29,t30,t31,t32,t33,t34,t35,t36,t37,t38,t39,t40,t41,t42,t43,t44,t45,t46,t47,t48,t49,t50,t51,t52,t53,t54,t55,t56,t57,t58,t59,t60,t61,t62,t63,t64,t65,t66,t67,t68,rfl⟩:=TV ha
 clear ha
 obtain⟨d0,d1,d2,d3,d4,d5,d6,d7,d8,d9,d10,d11,d12,d13,d14,d15,d16,d17,d18⟩:=HCl.out V8 hA.rc
 clear d0 d1 d2 d3 d4 d5 d6 d7 d8 d9 d10 d11 d12 d13 d18
 have H8:Hid (V8.heap[g]?=some (.cells #[.string x.kind,.string x.name,.int .i64 x.strength,.bool x.positive,.string x.head,.string x.cond.kind,.string x.cond.word,.int .i64 x.cond.num,.slice ka x.cond.kids.length kc,.string x.sum.kind,.string x.sum.word,.int .i64 x.sum.num,.slice ma x.sum.kids.length mc,.int .i64 x.way,.slice none 0 0,.int .i64 0,.int .i64 0,.int .i64 0,.string x.els] 30 (0,0))):=hA.bk
 have hg8:g<V8.heap.size:=(Array.getElem?_eq_some_iff.1 hA.bk).1
 have HGe:=aA hA.ge
 have k14:V8.cell? ⟨g,14,none⟩=some (.slice none 0 0):=dA H8.out (i:=14) rfl
 have kf:V8.frozen? ⟨g,14,none⟩=false:=frozen_of_row _ g _ _ _ H8.out
 have hbg:¬b=g:=by have:=HBw.out;have:=HWs.out;have:=hA.ge;omega
 have HA:=aA hA
 clear hA HCo HSu
 have hol:(0:Nat)+x.over.length≤1000000:=by have:=HO.out;omega
 go_upto_region 2 with fail
 go_region_law (first
  |(refine ER (E:=stE) (T:=9) (S:=26) (bytes:=16) (a:=oa) (n:=x.over.length) (c:=oc) Tryz.infoSt (by decide) Tryz.underlying26 rfl (.tmp 44) (.tmp 48) rfl V8.heap.size (.slice none 0 0) [] x.over (by first|(simp[Act.eval];done)|simp[Act.eval,Act.put]) (RowG.nil _ _) (by first|(simp[Act.eval];done)|simp[Act.eval,Act.put]) (HOv.out _ (by first|exact HA.out.rc|exact HA.out.rc.drew)) HNo.out (nR _) hol ?_
    intro v9 w9 hr9 hb9 hk9
    obtain⟨pa,pn,pc,rfl,hp9⟩:=hr9.any3
    have q14:=(hb9.cell (p:=⟨g,14,none⟩) hg8).trans k14
    have qf:=(hb9.frozen (p:=⟨g,14,none⟩) hg8).trans kf
    have H9:=aA (aI hr9 (aI hb9 hp9))
    clear hr9 hb9 hp9 hk9))
 all_goals (
  have G9:w9.heap[g]?=some (.cells #[.string x.kind,.string x.name,.int .i64 x.strength,.bool x.positive,.string x.head,.string x.cond.kind,.string x.cond.word,.int .i64 x.cond.num,.slice ka x.cond.kids.length kc,.string x.sum.kind,.string x.sum.word,.int .i64 x.sum.num,.slice ma x.sum.kids.length mc,.int .i64 x.way,.slice none 0 0,.int .i64 0,.int .i64 0,.int .i64 0,.string x.els] 30 (0,0)):=(H9.out.2.1.block g hg8).trans H8.out
  have G10:(w9.setCell ⟨g,14,none⟩ (.slice pa pn pc)).heap[g]?=some (.cells #[.string x.kind,.string x.name,.int .i64 x.strength,.bool x.positive,.string x.head,.string x.cond.kind,.string x.cond.word,.int .i64 x.cond.num,.slice ka x.cond.kids.length kc,.string x.sum.kind,.string x.sum.word,.int .i64 x.sum.num,.slice ma x.sum.kids.length mc,.int .i64 x.way,.slice pa pn pc,.int .i64 0,.int .i64 0,.int .i64 0,.string x.els] 30 (0,0)):=by rw[LA G9];rfl
  have hbl:b<V8.heap.size:=fB d15
  have f15:=(World.cell?_of_block (a:=⟨b,o+15,none⟩) (Below.heap_setCell w9 ⟨g,14,none⟩ (.slice pa pn pc) b hbg)).trans ((H9.out.2.1.cell (p:=⟨b,o+15,none⟩) hbl).trans d15)
  have f16:=(World.cell?_of_block (a:=⟨b,o+16,none⟩) (Below.heap_setCell w9 ⟨g,14,none⟩ (.slice pa pn pc) b hbg)).trans ((H9.out.2.1.cell (p:=⟨b,o+16,none⟩) hbl).trans d16)
  have f17:=(World.cell?_of_block (a:=⟨b,o+17,none⟩) (Below.heap_setCell w9 ⟨g,14,none⟩ (.slice pa pn pc) b hbg)).trans ((H9.out.2.1.cell (p:=⟨b,o+17,none⟩) hbl).trans d17)
  have HU:Hid (∀k,k≠g→(w9.setCell ⟨g,14,none⟩ (.slice pa pn pc)).heap[k]?=w9.heap[k]?):=fun k hk=>Below.heap_setCell _ _ _ _ hk
  have HUs:Hid (w9.heap.size=(w9.setCell ⟨g,14,none⟩ (.slice pa pn pc)).heap.size∧(w9.setCell ⟨g,14,none⟩ (.slice pa pn pc)).os=w9.os∧(w9.setCell ⟨g,14,none⟩ (.slice pa pn pc)).tape=w9.tape∧(w9.setCell ⟨g,14,none⟩ (.slice pa pn pc)).output=w9.output):=⟨by simp,rfl,rfl,rfl⟩
  have g15:=dA G10 (i:=15) (v:=.int .i64 0) rfl
  have g16:=dA G10 (i:=16) (v:=.int .i64 0) rfl
  have g17:=dA G10 (i:=17) (v:=.int .i64 0) rfl
  have fz:∀j,(w9.setCell ⟨g,14,none⟩ (.slice pa pn pc)).frozen? ⟨g,j,none⟩=false:=fun j=>frozen_of_row _ g _ _ _ G10
  have fz15:=fz 15
  have fz16:=fz 16
  have fz17:=fz 17
  have HG10:=aA G10
  clear G9 G10 fz k14 kf d14 d15 d16 d17 q14 qf H8 HCl HOv
  generalize w9.setCell ⟨g,14,none⟩ (.slice pa pn pc)=U at *
  go_upto_region 3 with fail
  go_region_held3 (fun V=>V.cell? ⟨b,o+15,none⟩=some (.int .i64 x.tn)∧V.cell? ⟨b,o+16,none⟩=some (.int .i64 x.tu)∧V.cell? ⟨b,o+17,none⟩=some (.int .i64 x.tr)) (first|exact⟨f15,f16,f17⟩|exact⟨(pI hbg).trans f15,(pI hbg).trans f16,(pI hbg).trans f17⟩) (fail)
  go_upto_region 4 with fail
  obtain⟨cF,hcF⟩:∃cF:Array Value,cF=#[.string x.kind,.string x.name,.int .i64 x.strength,.bool x.positive,.string x.head,.string x.cond.kind,.string x.cond.word,.int .i64 x.cond.num,.slice ka x.cond.kids.length kc,.string x.sum.kind,.string x.sum.word,.int .i64 x.sum.num,.slice ma x.sum.kids.length mc,.int .i64 x.way,.slice pa pn pc,.int .i64 x.tn,.int .i64 x.tu,.int .i64 x.tr,.string x.els]:=⟨_,rfl⟩
  have HF:Hid (((((U.setCell ⟨g,15,none⟩ (.int .i64 x.tn)).setCell ⟨g,16,none⟩ (.int .i64 x.tu)).setCell ⟨g,17,none⟩ (.int .i64 x.tr)).drew).heap[g]?=some (.cells cF 30 (0,0))):=(show (((U.setCell ⟨g,15,none⟩ (.int .i64 x.tn)).setCell ⟨g,16,none⟩ (.int .i64 x.tu)).setCell ⟨g,17,none⟩ (.int .i64 x.tr)).heap[g]?=some (.cells cF 30 (0,0)) by
   rw[hcF,LA (LA (LA HG10.out _) _)];rfl)
  have HFk:Hid (∀k,k≠g→((((U.setCell ⟨g,15,none⟩ (.int .i64 x.tn)).setCell ⟨g,16,none⟩ (.int .i64 x.tu)).setCell ⟨g,17,none⟩ (.int .i64 x.tr)).drew).heap[k]?=w9.heap[k]?):=fun k hk=>(show (((U.setCell ⟨g,15,none⟩ (.int .i64 x.tn)).setCell ⟨g,16,none⟩ (.int .i64 x.tu)).setCell ⟨g,17,none⟩ (.int .i64 x.tr)).heap[k]?=w9.heap[k]? by
   rw[Below.heap_setCell _ _ _ _ hk,Below.heap_setCell _ _ _ _ hk,Below.heap_setCell _ _ _ _ hk]
   exact HU.out k hk)
  have HFs:Hid (((((U.setCell ⟨g,15,none⟩ (.int .i64 x.tn)).setCell ⟨g,16,none⟩ (.int .i64 x.tu)).setCell ⟨g,17,none⟩ (.int .i64 x.tr)).drew).heap.size=w9.heap.size∧((((U.setCell ⟨g,15,none⟩ (.int .i64 x.tn)).setCell ⟨g,16,none⟩ (.int .i64 x.tu)).setCell ⟨g,17,none⟩ (.int .i64 x.tr)).drew).os=w9.os∧((((U.setCell ⟨g,15,none⟩ (.int .i64 x.tn)).setCell ⟨g,16,none⟩ (.int .i64 x.tu)).setCell ⟨g,17,none⟩ (.int .i64 x.tr)).drew).tape=w9.tape∧((((U.setCell ⟨g,15,none⟩ (.int .i64 x.tn)).setCell ⟨g,16,none⟩ (.int .i64 x.tu)).setCell ⟨g,17,none⟩ (.int .i64 x.tr)).drew).output=w9.output):=by
   refine⟨?_,HUs.out.2⟩
   show (((U.setCell ⟨g,15,none⟩ (.int .i64 x.tn)).setCell ⟨g,16,none⟩ (.int .i64 x.tu)).setCell ⟨g,17,none⟩ (.int .i64 x.tr)).heap.size=w9.heap.size
   simp
   exact HUs.out.1.symm
  have HZ9:Hid (cF.size=19∧cF.all (·.oneCell')=true):=by rw[hcF];exact(show _∧_ from⟨rfl,by simp[Value.oneCell']⟩)
  have HcF:=aA hcF
  clear hcF g15 g16 g17 fz15 fz16 fz17 f15 f16 f17 HU HUs HG10
  generalize (((U.setCell ⟨g,15,none⟩ (.int .i64 x.tn)).setCell ⟨g,16,none⟩ (.int .i64 x.tu)).setCell ⟨g,17,none⟩ (.int .i64 x.tr)).drew=U3 at *
  have hb9:=H9.out.2.1
  have hdr:V8.drew.heap.size=V8.heap.size:=rfl
  have hsz:=hb9.size
  have hrc:=HA.out.rc
  have hrs:=hrc.size
  have hws:=HWs.out
  have hge:=HGe.out
  have HBx:Hid (U3.heap[w.heap.size]?=some (.cells #[.string ⟨#[]⟩,.string ⟨#[]⟩,.int .i64 0,.bool false,.string ⟨#[]⟩,.string ⟨#[]⟩,.string ⟨#[]⟩,.int .i64 0,.slice none 0 0,.string ⟨#[]⟩,.string ⟨#[]⟩,.int .i64 0,.slice none 0 0,.int .i64 0,.slice none 0 0,.int .i64 0,.int .i64 0,.int .i64 0,.string ⟨#[]⟩] 30 (0,0))):=(HFk.out _ (by omega)).trans ((hb9.block _ (by omega)).trans ((hrc.block _ (by omega)).trans HB.out.2))
  have HN:=aA (aI hb9 (aI hsz (aI hrs (aI hws (aI hge (aI hg8 (aI hbg hbl)))))))
  clear hb9 hdr hsz hrc hrs hws hge hg8 hbg hbl hol
  go_wp2_with (first|(refine wpList_load_row rfl 30 (.tmp 3) rfl g (by simp[Act.eval]) 30 cF (0,0) _ HF.out Tryz.underlying30 rfl (infoPs.trans (by rw[HZ9.out.1])) ?_)|(refine wpList_store_row rfl 30 (.tmp 2) (.tmp 68) rfl w.heap.size cF (by simp[Act.eval,Act.put]) (by simp[Act.eval,Act.put]) 30 #[.string ⟨#[]⟩,.string ⟨#[]⟩,.int .i64 0,.bool false,.string ⟨#[]⟩,.string ⟨#[]⟩,.string ⟨#[]⟩,.int .i64 0,.slice none 0 0,.string ⟨#[]⟩,.string ⟨#[]⟩,.int .i64 0,.slice none 0 0,.int .i64 0,.slice none 0 0,.int .i64 0,.int .i64 0,.int .i64 0,.string ⟨#[]⟩] HBx.out (infoPs.trans (by rw[HZ9.out.1])) (by rw[HZ9.out.1];rfl) HZ9.out.2 ?_))
  refine bodyPost_ret (v:=.agg cF) ?_ rfl ?_
  ·exact results_cell_row Tryz.results11 _ _ w.heap.size 30 cF (0,0) _ (by first|rfl|simp) (setRow_heap _ _ _ _ _ _ HBx.out) Tryz.underlying30 rfl (infoPs.trans (by rw[HZ9.out.1]))
  obtain⟨hb9,hsz,hrs,hws,hge,hg8,hbg,hbl⟩:=HN.out
  have hdr:V8.drew.heap.size=V8.heap.size:=rfl
  have hpn:pn=x.over.length:=by have:=H9.out.2.2;simpa using this
  have hr8:Below w.heap.size w V8:=HB.out.1.trans HA.out.rc
  have hs9:(U3.setRow w.heap.size cF).heap.size=w9.heap.size:=(setRow_size _ _ _).trans HFs.out.1
  have hk9:∀k,k≠g→k≠w.heap.size→(U3.setRow w.heap.size cF).heap[k]?=w9.heap[k]?:=fun k h1 h2=>(setRow_other _ _ _ _ h2).trans (HFk.out k h1)
  refine⟨⟨HFs.out.2.1.trans (hb9.os.trans hr8.os),HFs.out.2.2.1.trans (hb9.tape.trans hr8.tape),HFs.out.2.2.2.trans (hb9.output.trans hr8.output),by rw[hs9];omega,fun k hk=>(hk9 k (by omega) (by omega)).trans ((hb9.block k (by omega)).trans (hr8.block k hk))⟩,ka,ma,kc,mc,pa,pc,cF,rfl,?_,?_,?_,?_⟩
  ·rw[HcF.out,hpn]
  ·exact HA.out.nc.step fun k hk=>(show _∧k<_ by
    have h9:=hk.1
    have h8:=hk.2.2
    rw[hs9]
    exact⟨(hk9 k hk.2.1 (by omega)).trans (hb9.block k (by omega)),by omega⟩)
  ·exact HA.out.ns.step fun k hk=>(show _∧k<_ by
    have h9:=hk.1
    have h8:=hk.2.2
    rw[hs9]
    exact⟨(hk9 k hk.2.1 (by omega)).trans (hb9.block k (by omega)),by omega⟩)
  ·have hrd:=H9.out.1.rdS
   rw[List.nil_append,hpn] at hrd
   exact hrd.on fun k hk=>⟨by rw[hs9];exact hk.2.1,hk9 k (by have:=hk.1;omega) (by have:=hk.1;omega)⟩)
end Go.Proofs.YtehbinobohjadaaGreatDoor

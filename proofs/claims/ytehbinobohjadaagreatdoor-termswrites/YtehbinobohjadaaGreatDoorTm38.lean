import Derived.Test.YtehbinobohjadaaGreatDoorTm00
import Derived.Test.YtehbinobohjadaaGreatDoorTm33
set_option maxHeartbeats 20000000
set_option maxRecDepth 20000
namespace Go.Proofs.YtehbinobohjadaaGreatDoor
open Go.RowKit Go.Sort Go.Extern.Stop Go.Stop Go.Extern
set_option linter.unusedSectionVars false
variable [Inhabited TP]
def xP(x y:SentT):Bool:=(x.kind.toList==y.kind.toList)&&((x.name.toList==y.name.toList)&&(decide (x.strength=y.strength)&&((x.positive==y.positive)&&((x.head.toList==y.head.toList)&&(SK x.cond y.cond&&(SK x.sum y.sum&&(decide (x.way=y.way)&&(lG x.over y.over&&(decide (x.tn=y.tn∧x.tu=y.tu∧x.tr=y.tr)&&(x.els.toList==y.els.toList))))))))))
theorem AM(x y:SentT):xP x y=((x.kind.toList==y.kind.toList)&&((x.name.toList==y.name.toList)&&(decide (x.strength=y.strength)&&((x.positive==y.positive)&&((x.head.toList==y.head.toList)&&(SK x.cond y.cond&&(SK x.sum y.sum&&(decide (x.way=y.way)&&(lG x.over y.over&&(decide (x.tn=y.tn∧x.tu=y.tu∧x.tr=y.tr)&&(x.els.toList==y.els.toList))))))))))):=rfl
theorem STc.grow{w w':World}{x:SentT}{ca sa:Option Addr}{cc sc:Nat}{oa:Option Addr}{oc:Nat}{cs:Array Value}(h:STc w (·<w.heap.size) x ca sa cc sc oa oc cs)(hb:Below w.heap.size w w'):STc w' (·<w'.heap.size) x ca sa cc sc oa oc cs:=h.step fun k hk=>⟨hb.block k hk,Nat.lt_of_lt_of_le hk hb.size⟩
theorem dA{W:World}{b:Nat}{cs:Array Value}{t:TypeId}{fr:Nat×Nat}(h:W.heap[b]?=some (.cells cs t fr)){i:Nat}{v:Value}(hv:cs[i]?=some v):W.cell? ⟨b,i,none⟩=some v:=by
 simp[World.cell?,h,hv]
theorem rC{W W':World}{b:Nat}{o:Obj}(h:W.heap[b]?=some o)(hb:Below W.heap.size W W'):W'.heap[b]?=some o:=(hb.block b (Array.getElem?_eq_some_iff.1 h).1).trans h
theorem jQ{x y:SentT}{w:World}{ca sa:Option Addr}{cc sc:Nat}{oa:Option Addr}{oc:Nat}{cs:Array Value}{da ta:Option Addr}{dc tc:Nat}{pa:Option Addr}{pc:Nat}{ds:Array Value}(hx:STc w (·<w.heap.size) x ca sa cc sc oa oc cs)(hy:STc w (·<w.heap.size) y da ta dc tc pa pc ds):
 Calls Tryz.prog 22 #[.agg cs,.agg ds] w fun e w'=>e=.returned (.bool (xP x y))∧Below w.heap.size w w':=by
 have hW:Below w.heap.size w ((w.alloc (.cells cs 30)).alloc (.cells ds 30)):=(bA _ _).alloc (by simp) _
 have HC:Hid (∀V,Below w.heap.size w V→Calls Tryz.prog 55 #[.agg (RA x.cond ca cc),.agg (RA y.cond da dc)] V fun e w'=>e=.returned (.bool (SK x.cond y.cond))∧Below V.heap.size V w'):=fun V hV=>BH _ _ rfl _ _ _ _ _ _ (hx.grow hV).nc (hy.grow hV).nc
 have HS:Hid (∀V,Below w.heap.size w V→Calls Tryz.prog 55 #[.agg (RA x.sum sa sc),.agg (RA y.sum ta tc)] V fun e w'=>e=.returned (.bool (SK x.sum y.sum))∧Below V.heap.size V w'):=fun V hV=>BH _ _ rfl _ _ _ _ _ _ (hx.grow hV).ns (hy.grow hV).ns
 have HO:Hid (∀V,Below w.heap.size w V→Calls Tryz.prog 56 #[.slice oa x.over.length oc,.slice pa y.over.length pc] V fun e w'=>e=.returned (.bool (lG x.over y.over))∧Below V.heap.size V w'):=fun V hV=>cQ (hx.grow hV).ov (hy.grow hV).ov
 have e1:=hx.eq
 have e2:=hy.eq
 subst e1;subst e2
 have HW:=aA hW
 have HE:=aA (AM x y)
 unfold RA at *
 clear hx hy hW
 have HX1:Hid (((w.alloc (.cells #[.string x.kind,.string x.name,.int .i64 x.strength,.bool x.positive,.string x.head,.string x.cond.kind,.string x.cond.word,.int .i64 x.cond.num,.slice ca x.cond.kids.length cc,.string x.sum.kind,.string x.sum.word,.int .i64 x.sum.num,.slice sa x.sum.kids.length sc,.int .i64 x.way,.slice oa x.over.length oc,.int .i64 x.tn,.int .i64 x.tu,.int .i64 x.tr,.string x.els] 30)).alloc (.cells #[.string y.kind,.string y.name,.int .i64 y.strength,.bool y.positive,.string y.head,.string y.cond.kind,.string y.cond.word,.int .i64 y.cond.num,.slice da y.cond.kids.length dc,.string y.sum.kind,.string y.sum.word,.int .i64 y.sum.num,.slice ta y.sum.kids.length tc,.int .i64 y.way,.slice pa y.over.length pc,.int .i64 y.tn,.int .i64 y.tu,.int .i64 y.tr,.string y.els] 30)).heap[w.heap.size]?=some _):=(Go.Deep.blk_alloc_lt _ _ _ (by simp)).trans (heap_alloc_new _ _)
 have HY1:Hid (((w.alloc (.cells #[.string x.kind,.string x.name,.int .i64 x.strength,.bool x.positive,.string x.head,.string x.cond.kind,.string x.cond.word,.int .i64 x.cond.num,.slice ca x.cond.kids.length cc,.string x.sum.kind,.string x.sum.word,.int .i64 x.sum.num,.slice sa x.sum.kids.length sc,.int .i64 x.way,.slice oa x.over.length oc,.int .i64 x.tn,.int .i64 x.tu,.int .i64 x.tr,.string x.els] 30)).alloc (.cells #[.string y.kind,.string y.name,.int .i64 y.strength,.bool y.positive,.string y.head,.string y.cond.kind,.string y.cond.word,.int .i64 y.cond.num,.slice da y.cond.kids.length dc,.string y.sum.kind,.string y.sum.word,.int .i64 y.sum.num,.slice ta y.sum.kids.length tc,.int .i64 y.way,.slice pa y.over.length pc,.int .i64 y.tn,.int .i64 y.tu,.int .i64 y.tr,.string y.els] 30)).heap[w.heap.size+1]?=some (.cells #[.string y.kind,.string y.name,.int .i64 y.strength,.bool y.positive,.string y.head,.string y.cond.kind,.string y.cond.word,.int .i64 y.cond.num,.slice da y.cond.kids.length dc,.string y.sum.kind,.string y.sum.word,.int .i64 y.sum.num,.slice ta y.sum.kids.length tc,.int .i64 y.way,.slice pa y.over.length pc,.int .i64 y.tn,.int .i64 y.tu,.int .i64 y.tr,.string y.els] 30 (0,0))):=by
  have h:=heap_alloc_new (w.alloc (.cells #[.string x.kind,.string x.name,.int .i64 x.strength,.bool x.positive,.string x.head,.string x.cond.kind,.string x.cond.word,.int .i64 x.cond.num,.slice ca x.cond.kids.length cc,.string x.sum.kind,.string x.sum.word,.int .i64 x.sum.num,.slice sa x.sum.kids.length sc,.int .i64 x.way,.slice oa x.over.length oc,.int .i64 x.tn,.int .i64 x.tu,.int .i64 x.tr,.string x.els] 30)) (.cells #[.string y.kind,.string y.name,.int .i64 y.strength,.bool y.positive,.string y.head,.string y.cond.kind,.string y.cond.word,.int .i64 y.cond.num,.slice da y.cond.kids.length dc,.string y.sum.kind,.string y.sum.word,.int .i64 y.sum.num,.slice ta y.sum.kids.length tc,.int .i64 y.way,.slice pa y.over.length pc,.int .i64 y.tn,.int .i64 y.tu,.int .i64 y.tr,.string y.els] 30)
  rw[show (w.alloc (.cells #[.string x.kind,.string x.name,.int .i64 x.strength,.bool x.positive,.string x.head,.string x.cond.kind,.string x.cond.word,.int .i64 x.cond.num,.slice ca x.cond.kids.length cc,.string x.sum.kind,.string x.sum.word,.int .i64 x.sum.num,.slice sa x.sum.kids.length sc,.int .i64 x.way,.slice oa x.over.length oc,.int .i64 x.tn,.int .i64 x.tu,.int .i64 x.tr,.string x.els] 30)).heap.size=w.heap.size+1 by simp] at h
  exact h
 generalize xP x y=R at *
 generalize SK x.cond y.cond=EC at *
 generalize SK x.sum y.sum=ES at *
 generalize lG x.over y.over=EO at *
 generalize x.over.length=pol at *
 generalize x.cond.kids.length=pcl at *
 generalize x.sum.kids.length=psl at *
 generalize x.cond.kind=pc0 at *
 generalize x.cond.word=pc1 at *
 generalize x.cond.num=pc2 at *
 generalize x.sum.kind=ps0 at *
 generalize x.sum.word=ps1 at *
 generalize x.sum.num=ps2 at *
 generalize x.kind=pa0 at *
 generalize x.name=pa1 at *
 generalize x.strength=pa2 at *
 generalize x.positive=pa3 at *
 generalize x.head=pa4 at *
 generalize x.way=pa7 at *
 generalize x.tn=pa9 at *
 generalize x.tu=paa at *
 generalize x.tr=pab at *
 generalize x.els=pad at *
 generalize y.over.length=qol at *
 generalize y.cond.kids.length=qcl at *
 generalize y.sum.kids.length=qsl at *
 generalize y.cond.kind=qc0 at *
 generalize y.cond.word=qc1 at *
 generalize y.cond.num=qc2 at *
 generalize y.sum.kind=qs0 at *
 generalize y.sum.word=qs1 at *
 generalize y.sum.num=qs2 at *
 generalize y.kind=qa0 at *
 generalize y.name=qa1 at *
 generalize y.strength=qa2 at *
 generalize y.positive=qa3 at *
 generalize y.head=qa4 at *
 generalize y.way=qa7 at *
 generalize y.tn=qa9 at *
 generalize y.tu=qaa at *
 generalize y.tr=qab at *
 generalize y.els=qad at *
 cases h0:(pa0.toList==qa0.toList)
 ·rw[h0] at HE
  have g0:¬pa0.toList=qa0.toList:=by simpa using h0
  clear h0
  go_enter Tryz.func22,Tryz.ntmps22
  go_wp2
  go_ret
  exact⟨lD (by rw[HE.out];simp),HW.out⟩
 have g0:pa0=qa0:=MD (by simpa using h0)
 subst g0
 clear h0
 cases h1:(pa1.toList==qa1.toList)
 ·rw[h1] at HE
  have g1:¬pa1.toList=qa1.toList:=by simpa using h1
  clear h1
  go_enter Tryz.func22,Tryz.ntmps22
  go_wp2
  go_ret
  exact⟨lD (by rw[HE.out];simp),HW.out⟩
 have g1:pa1=qa1:=MD (by simpa using h1)
 subst g1
 clear h1
 by_cases h2:pa2=qa2
 rotate_left
 ·rw[decide_eq_false h2] at HE
  go_enter Tryz.func22,Tryz.ntmps22
  go_wp2
  go_ret
  exact⟨lD (by rw[HE.out];simp),HW.out⟩
 subst h2
 by_cases h3:pa3=qa3
 rotate_left
 ·cases pa3<;>cases qa3
  ·exact absurd rfl h3
  ·clear h3
   go_enter Tryz.func22,Tryz.ntmps22
   go_wp2
   go_ret
   exact⟨lD (by rw[HE.out];simp),HW.out⟩
  ·clear h3
   go_enter Tryz.func22,Tryz.ntmps22
   go_wp2
   go_ret
   exact⟨lD (by rw[HE.out];simp),HW.out⟩
  ·exact absurd rfl h3
 subst h3
 cases h4:(pa4.toList==qa4.toList)
 ·rw[h4] at HE
  have g4:¬pa4.toList=qa4.toList:=by simpa using h4
  clear h4
  go_enter Tryz.func22,Tryz.ntmps22
  go_wp2
  go_ret
  exact⟨lD (by rw[HE.out];simp),HW.out⟩
 have g4:pa4=qa4:=MD (by simpa using h4)
 subst g4
 clear h4
 cases EC
 ·
  go_enter Tryz.func22,Tryz.ntmps22
  go_wp2_with (first|(go_at_call 56;revert HB2;intro HB2;refine(HO.out _ HB2.out).mono ?_;rintro e w4 ⟨rfl,h9⟩;(have HB3:=aA (HB2.out.trans (h9.mono HB2.out.size)));(have HX4:=aA (rC HX3.out h9));(have HY4:=aA (rC HY3.out h9));(have dx15:=dA HX4.out (i:=15) rfl);(have dy15:=dA HY4.out (i:=15) rfl);(have dx16:=dA HX4.out (i:=16) rfl);(have dy16:=dA HY4.out (i:=16) rfl);(have dx17:=dA HX4.out (i:=17) rfl);(have dy17:=dA HY4.out (i:=17) rfl);(have dx18:=dA HX4.out (i:=18) rfl);(have dy18:=dA HY4.out (i:=18) rfl);clear h9)|(go_at_call 55;revert HB1;intro HB1;refine(HS.out _ HB1.out).mono ?_;rintro e w3 ⟨rfl,h9⟩;(have HB2:=aA (HB1.out.trans (h9.mono HB1.out.size)));(have HX3:=aA (rC HX2.out h9));(have HY3:=aA (rC HY2.out h9));(have cx13:=dA HX3.out (i:=13) rfl);(have cy13:=dA HY3.out (i:=13) rfl);(have cx14:=dA HX3.out (i:=14) rfl);(have cy14:=dA HY3.out (i:=14) rfl);(have cx15:=dA HX3.out (i:=15) rfl);(have cy15:=dA HY3.out (i:=15) rfl);(have cx16:=dA HX3.out (i:=16) rfl);(have cy16:=dA HY3.out (i:=16) rfl);(have cx17:=dA HX3.out (i:=17) rfl);(have cy17:=dA HY3.out (i:=17) rfl);(have cx18:=dA HX3.out (i:=18) rfl);(have cy18:=dA HY3.out (i:=18) rfl);clear h9)|(go_at_call 55;refine(HC.out _ HW.out).mono ?_;rintro e w2 ⟨rfl,h9⟩;(have HB1:=aA (HW.out.trans (h9.mono HW.out.size)));(have HX2:=aA (rC HX1.out h9));(have HY2:=aA (rC HY1.out h9));(have bx9:=dA HX2.out (i:=9) rfl);(have by9:=dA HY2.out (i:=9) rfl);(have bx10:=dA HX2.out (i:=10) rfl);(have by10:=dA HY2.out (i:=10) rfl);(have bx11:=dA HX2.out (i:=11) rfl);(have by11:=dA HY2.out (i:=11) rfl);(have bx12:=dA HX2.out (i:=12) rfl);(have by12:=dA HY2.out (i:=12) rfl);(have bx13:=dA HX2.out (i:=13) rfl);(have by13:=dA HY2.out (i:=13) rfl);(have bx14:=dA HX2.out (i:=14) rfl);(have by14:=dA HY2.out (i:=14) rfl);(have bx15:=dA HX2.out (i:=15) rfl);(have by15:=dA HY2.out (i:=15) rfl);(have bx16:=dA HX2.out (i:=16) rfl);(have by16:=dA HY2.out (i:=16) rfl);(have bx17:=dA HX2.out (i:=17) rfl);(have by17:=dA HY2.out (i:=17) rfl);(have bx18:=dA HX2.out (i:=18) rfl);(have by18:=dA HY2.out (i:=18) rfl);clear h9))
  go_ret
  exact⟨lD (by rw[HE.out];simp),HB1.out⟩
 cases ES
 ·
  go_enter Tryz.func22,Tryz.ntmps22
  go_wp2_with (first|(go_at_call 56;revert HB2;intro HB2;refine(HO.out _ HB2.out).mono ?_;rintro e w4 ⟨rfl,h9⟩;(have HB3:=aA (HB2.out.trans (h9.mono HB2.out.size)));(have HX4:=aA (rC HX3.out h9));(have HY4:=aA (rC HY3.out h9));(have dx15:=dA HX4.out (i:=15) rfl);(have dy15:=dA HY4.out (i:=15) rfl);(have dx16:=dA HX4.out (i:=16) rfl);(have dy16:=dA HY4.out (i:=16) rfl);(have dx17:=dA HX4.out (i:=17) rfl);(have dy17:=dA HY4.out (i:=17) rfl);(have dx18:=dA HX4.out (i:=18) rfl);(have dy18:=dA HY4.out (i:=18) rfl);clear h9)|(go_at_call 55;revert HB1;intro HB1;refine(HS.out _ HB1.out).mono ?_;rintro e w3 ⟨rfl,h9⟩;(have HB2:=aA (HB1.out.trans (h9.mono HB1.out.size)));(have HX3:=aA (rC HX2.out h9));(have HY3:=aA (rC HY2.out h9));(have cx13:=dA HX3.out (i:=13) rfl);(have cy13:=dA HY3.out (i:=13) rfl);(have cx14:=dA HX3.out (i:=14) rfl);(have cy14:=dA HY3.out (i:=14) rfl);(have cx15:=dA HX3.out (i:=15) rfl);(have cy15:=dA HY3.out (i:=15) rfl);(have cx16:=dA HX3.out (i:=16) rfl);(have cy16:=dA HY3.out (i:=16) rfl);(have cx17:=dA HX3.out (i:=17) rfl);(have cy17:=dA HY3.out (i:=17) rfl);(have cx18:=dA HX3.out (i:=18) rfl);(have cy18:=dA HY3.out (i:=18) rfl);clear h9)|(go_at_call 55;refine(HC.out _ HW.out).mono ?_;rintro e w2 ⟨rfl,h9⟩;(have HB1:=aA (HW.out.trans (h9.mono HW.out.size)));(have HX2:=aA (rC HX1.out h9));(have HY2:=aA (rC HY1.out h9));(have bx9:=dA HX2.out (i:=9) rfl);(have by9:=dA HY2.out (i:=9) rfl);(have bx10:=dA HX2.out (i:=10) rfl);(have by10:=dA HY2.out (i:=10) rfl);(have bx11:=dA HX2.out (i:=11) rfl);(have by11:=dA HY2.out (i:=11) rfl);(have bx12:=dA HX2.out (i:=12) rfl);(have by12:=dA HY2.out (i:=12) rfl);(have bx13:=dA HX2.out (i:=13) rfl);(have by13:=dA HY2.out (i:=13) rfl);(have bx14:=dA HX2.out (i:=14) rfl);(have by14:=dA HY2.out (i:=14) rfl);(have bx15:=dA HX2.out (i:=15) rfl);(have by15:=dA HY2.out (i:=15) rfl);(have bx16:=dA HX2.out (i:=16) rfl);(have by16:=dA HY2.out (i:=16) rfl);(have bx17:=dA HX2.out (i:=17) rfl);(have by17:=dA HY2.out (i:=17) rfl);(have bx18:=dA HX2.out (i:=18) rfl);(have by18:=dA HY2.out (i:=18) rfl);clear h9))
  go_ret
  exact⟨lD (by rw[HE.out];simp),HB2.out⟩
 by_cases h7:pa7=qa7
 rotate_left
 ·rw[decide_eq_false h7] at HE
  go_enter Tryz.func22,Tryz.ntmps22
  go_wp2_with (first|(go_at_call 56;revert HB2;intro HB2;refine(HO.out _ HB2.out).mono ?_;rintro e w4 ⟨rfl,h9⟩;(have HB3:=aA (HB2.out.trans (h9.mono HB2.out.size)));(have HX4:=aA (rC HX3.out h9));(have HY4:=aA (rC HY3.out h9));(have dx15:=dA HX4.out (i:=15) rfl);(have dy15:=dA HY4.out (i:=15) rfl);(have dx16:=dA HX4.out (i:=16) rfl);(have dy16:=dA HY4.out (i:=16) rfl);(have dx17:=dA HX4.out (i:=17) rfl);(have dy17:=dA HY4.out (i:=17) rfl);(have dx18:=dA HX4.out (i:=18) rfl);(have dy18:=dA HY4.out (i:=18) rfl);clear h9)|(go_at_call 55;revert HB1;intro HB1;refine(HS.out _ HB1.out).mono ?_;rintro e w3 ⟨rfl,h9⟩;(have HB2:=aA (HB1.out.trans (h9.mono HB1.out.size)));(have HX3:=aA (rC HX2.out h9));(have HY3:=aA (rC HY2.out h9));(have cx13:=dA HX3.out (i:=13) rfl);(have cy13:=dA HY3.out (i:=13) rfl);(have cx14:=dA HX3.out (i:=14) rfl);(have cy14:=dA HY3.out (i:=14) rfl);(have cx15:=dA HX3.out (i:=15) rfl);(have cy15:=dA HY3.out (i:=15) rfl);(have cx16:=dA HX3.out (i:=16) rfl);(have cy16:=dA HY3.out (i:=16) rfl);(have cx17:=dA HX3.out (i:=17) rfl);(have cy17:=dA HY3.out (i:=17) rfl);(have cx18:=dA HX3.out (i:=18) rfl);(have cy18:=dA HY3.out (i:=18) rfl);clear h9)|(go_at_call 55;refine(HC.out _ HW.out).mono ?_;rintro e w2 ⟨rfl,h9⟩;(have HB1:=aA (HW.out.trans (h9.mono HW.out.size)));(have HX2:=aA (rC HX1.out h9));(have HY2:=aA (rC HY1.out h9));(have bx9:=dA HX2.out (i:=9) rfl);(have by9:=dA HY2.out (i:=9) rfl);(have bx10:=dA HX2.out (i:=10) rfl);(have by10:=dA HY2.out (i:=10) rfl);(have bx11:=dA HX2.out (i:=11) rfl);(have by11:=dA HY2.out (i:=11) rfl);(have bx12:=dA HX2.out (i:=12) rfl);(have by12:=dA HY2.out (i:=12) rfl);(have bx13:=dA HX2.out (i:=13) rfl);(have by13:=dA HY2.out (i:=13) rfl);(have bx14:=dA HX2.out (i:=14) rfl);(have by14:=dA HY2.out (i:=14) rfl);(have bx15:=dA HX2.out (i:=15) rfl);(have by15:=dA HY2.out (i:=15) rfl);(have bx16:=dA HX2.out (i:=16) rfl);(have by16:=dA HY2.out (i:=16) rfl);(have bx17:=dA HX2.out (i:=17) rfl);(have by17:=dA HY2.out (i:=17) rfl);(have bx18:=dA HX2.out (i:=18) rfl);(have by18:=dA HY2.out (i:=18) rfl);clear h9))
  go_ret
  exact⟨lD (by rw[HE.out];simp),HB2.out⟩
 subst h7
 cases EO
 ·
  go_enter Tryz.func22,Tryz.ntmps22
  go_wp2_with (first|(go_at_call 56;revert HB2;intro HB2;refine(HO.out _ HB2.out).mono ?_;rintro e w4 ⟨rfl,h9⟩;(have HB3:=aA (HB2.out.trans (h9.mono HB2.out.size)));(have HX4:=aA (rC HX3.out h9));(have HY4:=aA (rC HY3.out h9));(have dx15:=dA HX4.out (i:=15) rfl);(have dy15:=dA HY4.out (i:=15) rfl);(have dx16:=dA HX4.out (i:=16) rfl);(have dy16:=dA HY4.out (i:=16) rfl);(have dx17:=dA HX4.out (i:=17) rfl);(have dy17:=dA HY4.out (i:=17) rfl);(have dx18:=dA HX4.out (i:=18) rfl);(have dy18:=dA HY4.out (i:=18) rfl);clear h9)|(go_at_call 55;revert HB1;intro HB1;refine(HS.out _ HB1.out).mono ?_;rintro e w3 ⟨rfl,h9⟩;(have HB2:=aA (HB1.out.trans (h9.mono HB1.out.size)));(have HX3:=aA (rC HX2.out h9));(have HY3:=aA (rC HY2.out h9));(have cx13:=dA HX3.out (i:=13) rfl);(have cy13:=dA HY3.out (i:=13) rfl);(have cx14:=dA HX3.out (i:=14) rfl);(have cy14:=dA HY3.out (i:=14) rfl);(have cx15:=dA HX3.out (i:=15) rfl);(have cy15:=dA HY3.out (i:=15) rfl);(have cx16:=dA HX3.out (i:=16) rfl);(have cy16:=dA HY3.out (i:=16) rfl);(have cx17:=dA HX3.out (i:=17) rfl);(have cy17:=dA HY3.out (i:=17) rfl);(have cx18:=dA HX3.out (i:=18) rfl);(have cy18:=dA HY3.out (i:=18) rfl);clear h9)|(go_at_call 55;refine(HC.out _ HW.out).mono ?_;rintro e w2 ⟨rfl,h9⟩;(have HB1:=aA (HW.out.trans (h9.mono HW.out.size)));(have HX2:=aA (rC HX1.out h9));(have HY2:=aA (rC HY1.out h9));(have bx9:=dA HX2.out (i:=9) rfl);(have by9:=dA HY2.out (i:=9) rfl);(have bx10:=dA HX2.out (i:=10) rfl);(have by10:=dA HY2.out (i:=10) rfl);(have bx11:=dA HX2.out (i:=11) rfl);(have by11:=dA HY2.out (i:=11) rfl);(have bx12:=dA HX2.out (i:=12) rfl);(have by12:=dA HY2.out (i:=12) rfl);(have bx13:=dA HX2.out (i:=13) rfl);(have by13:=dA HY2.out (i:=13) rfl);(have bx14:=dA HX2.out (i:=14) rfl);(have by14:=dA HY2.out (i:=14) rfl);(have bx15:=dA HX2.out (i:=15) rfl);(have by15:=dA HY2.out (i:=15) rfl);(have bx16:=dA HX2.out (i:=16) rfl);(have by16:=dA HY2.out (i:=16) rfl);(have bx17:=dA HX2.out (i:=17) rfl);(have by17:=dA HY2.out (i:=17) rfl);(have bx18:=dA HX2.out (i:=18) rfl);(have by18:=dA HY2.out (i:=18) rfl);clear h9))
  go_ret
  exact⟨lD (by rw[HE.out];simp),HB3.out⟩
 by_cases h9:pa9=qa9∧paa=qaa∧pab=qab
 rotate_left
 ·rw[decide_eq_false h9] at HE
  have HTe:=JR pa9 paa pab qa9 qaa qab h9
  go_enter Tryz.func22,Tryz.ntmps22
  go_wp2_with (first|(go_at_call 56;revert HB2;intro HB2;refine(HO.out _ HB2.out).mono ?_;rintro e w4 ⟨rfl,h9⟩;(have HB3:=aA (HB2.out.trans (h9.mono HB2.out.size)));(have HX4:=aA (rC HX3.out h9));(have HY4:=aA (rC HY3.out h9));(have dx15:=dA HX4.out (i:=15) rfl);(have dy15:=dA HY4.out (i:=15) rfl);(have dx16:=dA HX4.out (i:=16) rfl);(have dy16:=dA HY4.out (i:=16) rfl);(have dx17:=dA HX4.out (i:=17) rfl);(have dy17:=dA HY4.out (i:=17) rfl);(have dx18:=dA HX4.out (i:=18) rfl);(have dy18:=dA HY4.out (i:=18) rfl);clear h9)|(go_at_call 55;revert HB1;intro HB1;refine(HS.out _ HB1.out).mono ?_;rintro e w3 ⟨rfl,h9⟩;(have HB2:=aA (HB1.out.trans (h9.mono HB1.out.size)));(have HX3:=aA (rC HX2.out h9));(have HY3:=aA (rC HY2.out h9));(have cx13:=dA HX3.out (i:=13) rfl);(have cy13:=dA HY3.out (i:=13) rfl);(have cx14:=dA HX3.out (i:=14) rfl);(have cy14:=dA HY3.out (i:=14) rfl);(have cx15:=dA HX3.out (i:=15) rfl);(have cy15:=dA HY3.out (i:=15) rfl);(have cx16:=dA HX3.out (i:=16) rfl);(have cy16:=dA HY3.out (i:=16) rfl);(have cx17:=dA HX3.out (i:=17) rfl);(have cy17:=dA HY3.out (i:=17) rfl);(have cx18:=dA HX3.out (i:=18) rfl);(have cy18:=dA HY3.out (i:=18) rfl);clear h9)|(go_at_call 55;refine(HC.out _ HW.out).mono ?_;rintro e w2 ⟨rfl,h9⟩;(have HB1:=aA (HW.out.trans (h9.mono HW.out.size)));(have HX2:=aA (rC HX1.out h9));(have HY2:=aA (rC HY1.out h9));(have bx9:=dA HX2.out (i:=9) rfl);(have by9:=dA HY2.out (i:=9) rfl);(have bx10:=dA HX2.out (i:=10) rfl);(have by10:=dA HY2.out (i:=10) rfl);(have bx11:=dA HX2.out (i:=11) rfl);(have by11:=dA HY2.out (i:=11) rfl);(have bx12:=dA HX2.out (i:=12) rfl);(have by12:=dA HY2.out (i:=12) rfl);(have bx13:=dA HX2.out (i:=13) rfl);(have by13:=dA HY2.out (i:=13) rfl);(have bx14:=dA HX2.out (i:=14) rfl);(have by14:=dA HY2.out (i:=14) rfl);(have bx15:=dA HX2.out (i:=15) rfl);(have by15:=dA HY2.out (i:=15) rfl);(have bx16:=dA HX2.out (i:=16) rfl);(have by16:=dA HY2.out (i:=16) rfl);(have bx17:=dA HX2.out (i:=17) rfl);(have by17:=dA HY2.out (i:=17) rfl);(have bx18:=dA HX2.out (i:=18) rfl);(have by18:=dA HY2.out (i:=18) rfl);clear h9))
  go_ret
  exact⟨lD (by rw[HE.out];simp),HB3.out⟩
 obtain⟨g9,ga,gb⟩:=h9
 subst g9;subst ga;subst gb
 have HTe:=kP pa9 paa pab
 cases h10:(pad.toList==qad.toList)
 ·rw[h10] at HE
  have g10:¬pad.toList=qad.toList:=by simpa using h10
  clear h10
  go_enter Tryz.func22,Tryz.ntmps22
  go_wp2_with (first|(go_at_call 56;revert HB2;intro HB2;refine(HO.out _ HB2.out).mono ?_;rintro e w4 ⟨rfl,h9⟩;(have HB3:=aA (HB2.out.trans (h9.mono HB2.out.size)));(have HX4:=aA (rC HX3.out h9));(have HY4:=aA (rC HY3.out h9));(have dx15:=dA HX4.out (i:=15) rfl);(have dy15:=dA HY4.out (i:=15) rfl);(have dx16:=dA HX4.out (i:=16) rfl);(have dy16:=dA HY4.out (i:=16) rfl);(have dx17:=dA HX4.out (i:=17) rfl);(have dy17:=dA HY4.out (i:=17) rfl);(have dx18:=dA HX4.out (i:=18) rfl);(have dy18:=dA HY4.out (i:=18) rfl);clear h9)|(go_at_call 55;revert HB1;intro HB1;refine(HS.out _ HB1.out).mono ?_;rintro e w3 ⟨rfl,h9⟩;(have HB2:=aA (HB1.out.trans (h9.mono HB1.out.size)));(have HX3:=aA (rC HX2.out h9));(have HY3:=aA (rC HY2.out h9));(have cx13:=dA HX3.out (i:=13) rfl);(have cy13:=dA HY3.out (i:=13) rfl);(have cx14:=dA HX3.out (i:=14) rfl);(have cy14:=dA HY3.out (i:=14) rfl);(have cx15:=dA HX3.out (i:=15) rfl);(have cy15:=dA HY3.out (i:=15) rfl);(have cx16:=dA HX3.out (i:=16) rfl);(have cy16:=dA HY3.out (i:=16) rfl);(have cx17:=dA HX3.out (i:=17) rfl);(have cy17:=dA HY3.out (i:=17) rfl);(have cx18:=dA HX3.out (i:=18) rfl);(have cy18:=dA HY3.out (i:=18) rfl);clear h9)|(go_at_call 55;refine(HC.out _ HW.out).mono ?_;rintro e w2 ⟨rfl,h9⟩;(have HB1:=aA (HW.out.trans (h9.mono HW.out.size)));(have HX2:=aA (rC HX1.out h9));(have HY2:=aA (rC HY1.out h9));(have bx9:=dA HX2.out (i:=9) rfl);(have by9:=dA HY2.out (i:=9) rfl);(have bx10:=dA HX2.out (i:=10) rfl);(have by10:=dA HY2.out (i:=10) rfl);(have bx11:=dA HX2.out (i:=11) rfl);(have by11:=dA HY2.out (i:=11) rfl);(have bx12:=dA HX2.out (i:=12) rfl);(have by12:=dA HY2.out (i:=12) rfl);(have bx13:=dA HX2.out (i:=13) rfl);(have by13:=dA HY2.out (i:=13) rfl);(have bx14:=dA HX2.out (i:=14) rfl);(have by14:=dA HY2.out (i:=14) rfl);(have bx15:=dA HX2.out (i:=15) rfl);(have by15:=dA HY2.out (i:=15) rfl);(have bx16:=dA HX2.out (i:=16) rfl);(have by16:=dA HY2.out (i:=16) rfl);(have bx17:=dA HX2.out (i:=17) rfl);(have by17:=dA HY2.out (i:=17) rfl);(have bx18:=dA HX2.out (i:=18) rfl);(have by18:=dA HY2.out (i:=18) rfl);clear h9))
  go_ret
  exact⟨lD (by rw[HE.out];simp;exact g10),HB3.out⟩
 have g10:pad=qad:=MD (by simpa using h10)
 subst g10
 clear h10
 go_enter Tryz.func22,Tryz.ntmps22
 go_wp2_with (first|(go_at_call 56;revert HB2;intro HB2;refine(HO.out _ HB2.out).mono ?_;rintro e w4 ⟨rfl,h9⟩;(have HB3:=aA (HB2.out.trans (h9.mono HB2.out.size)));(have HX4:=aA (rC HX3.out h9));(have HY4:=aA (rC HY3.out h9));(have dx15:=dA HX4.out (i:=15) rfl);(have dy15:=dA HY4.out (i:=15) rfl);(have dx16:=dA HX4.out (i:=16) rfl);(have dy16:=dA HY4.out (i:=16) rfl);(have dx17:=dA HX4.out (i:=17) rfl);(have dy17:=dA HY4.out (i:=17) rfl);(have dx18:=dA HX4.out (i:=18) rfl);(have dy18:=dA HY4.out (i:=18) rfl);clear h9)|(go_at_call 55;revert HB1;intro HB1;refine(HS.out _ HB1.out).mono ?_;rintro e w3 ⟨rfl,h9⟩;(have HB2:=aA (HB1.out.trans (h9.mono HB1.out.size)));(have HX3:=aA (rC HX2.out h9));(have HY3:=aA (rC HY2.out h9));(have cx13:=dA HX3.out (i:=13) rfl);(have cy13:=dA HY3.out (i:=13) rfl);(have cx14:=dA HX3.out (i:=14) rfl);(have cy14:=dA HY3.out (i:=14) rfl);(have cx15:=dA HX3.out (i:=15) rfl);(have cy15:=dA HY3.out (i:=15) rfl);(have cx16:=dA HX3.out (i:=16) rfl);(have cy16:=dA HY3.out (i:=16) rfl);(have cx17:=dA HX3.out (i:=17) rfl);(have cy17:=dA HY3.out (i:=17) rfl);(have cx18:=dA HX3.out (i:=18) rfl);(have cy18:=dA HY3.out (i:=18) rfl);clear h9)|(go_at_call 55;refine(HC.out _ HW.out).mono ?_;rintro e w2 ⟨rfl,h9⟩;(have HB1:=aA (HW.out.trans (h9.mono HW.out.size)));(have HX2:=aA (rC HX1.out h9));(have HY2:=aA (rC HY1.out h9));(have bx9:=dA HX2.out (i:=9) rfl);(have by9:=dA HY2.out (i:=9) rfl);(have bx10:=dA HX2.out (i:=10) rfl);(have by10:=dA HY2.out (i:=10) rfl);(have bx11:=dA HX2.out (i:=11) rfl);(have by11:=dA HY2.out (i:=11) rfl);(have bx12:=dA HX2.out (i:=12) rfl);(have by12:=dA HY2.out (i:=12) rfl);(have bx13:=dA HX2.out (i:=13) rfl);(have by13:=dA HY2.out (i:=13) rfl);(have bx14:=dA HX2.out (i:=14) rfl);(have by14:=dA HY2.out (i:=14) rfl);(have bx15:=dA HX2.out (i:=15) rfl);(have by15:=dA HY2.out (i:=15) rfl);(have bx16:=dA HX2.out (i:=16) rfl);(have by16:=dA HY2.out (i:=16) rfl);(have bx17:=dA HX2.out (i:=17) rfl);(have by17:=dA HY2.out (i:=17) rfl);(have bx18:=dA HX2.out (i:=18) rfl);(have by18:=dA HY2.out (i:=18) rfl);clear h9))
 go_ret
 exact⟨lD (by rw[HE.out];simp),HB3.out⟩
end Go.Proofs.YtehbinobohjadaaGreatDoor

import Derived.Test.YtpbolcjcmkmalaaGreatDoorAq00
import Derived.Test.YtpbolcjcmkmalaaGreatDoorAq09
import Derived.Test.YtpbolcjcmkmalaaGreatDoorAq11
import Derived.Deep.DeepCutAuto
import Derived.Deep.RegionHeld3
import Derived.Carry
set_option maxHeartbeats 20000000
set_option maxRecDepth 20000
namespace Go.Proofs.YtpbolcjcmkmalaaGreatDoor
open Go.RowKit Go.Extern.Stop Go.Stop Go.Extern
abbrev iC:Array Value:=#[.func (.func 62) #[] #[],.func (.func 63) #[] #[],.func (.func 65) #[] #[],.int .i64 67108864,.int .i64 600]
structure SC(w:World)(sb mb:Nat)(ex:Prop)(F:Addr→Int→Prop):Prop where
 bk:w.heap[sb]?=some (.cells #[.func (.func 62) #[] #[],.func (.func 63) #[] #[],.func (.func 65) #[] #[],.int .i64 67108864,.int .i64 600,.map (some mb)] 157 (0,0))
 mp:MpP w mb ex F
theorem nU{W:World}{g:Nat}{c0 c1 c2 c3 c4 c5:Value}{T:TypeId}(h:W.heap[g]?=some (.cells #[c0,c1,c2,c3,c4,c5] T (0,0))):W.cell? ⟨g,0,none⟩=some c0∧W.cell? ⟨g,1,none⟩=some c1∧W.cell? ⟨g,2,none⟩=some c2∧W.cell? ⟨g,3,none⟩=some c3∧W.cell? ⟨g,4,none⟩=some c4∧W.cell? ⟨g,5,none⟩=some c5:=by
 simp[World.cell?,h]
theorem pO{W:World}{g:Nat}{a b c d e:Value}{T:TypeId}(h:W.heap[g]?=some (.cells #[a,b,c,d,e] T (0,0))):W.cell? ⟨g,0,none⟩=some a∧W.cell? ⟨g,1,none⟩=some b∧W.cell? ⟨g,2,none⟩=some c∧W.cell? ⟨g,3,none⟩=some d∧W.cell? ⟨g,4,none⟩=some e:=by
 simp[World.cell?,h]
theorem SC.on{w w':World}{sb mb:Nat}{ex:Prop}{F F':Addr→Int→Prop}(h:SC w sb mb ex F)(h1:w'.heap[sb]?=w.heap[sb]?)(h2:MpP w' mb ex F'):SC w' sb mb ex F':=⟨h1.trans h.bk,h2⟩
theorem SC.drewN{w:World}{sb mb:Nat}{ex:Prop}{F:Addr→Int→Prop}(h:SC w sb mb ex F)(n:Nat):SC (w.drewN n) sb mb ex F:=⟨h.bk,h.mp.drewN n⟩
theorem SC.lt{w:World}{sb mb:Nat}{ex:Prop}{F:Addr→Int→Prop}(h:SC w sb mb ex F):sb<w.heap.size:=(Array.getElem?_eq_some_iff.1 h.bk).1
theorem SC.ne{w:World}{sb mb:Nat}{ex:Prop}{F:Addr→Int→Prop}(h:SC w sb mb ex F):sb≠mb:=fun e=>by
 obtain⟨es,cl,h1,_⟩:=h.mp
 have h2:=h.bk
 rw[e,h1] at h2
 cases h2
theorem UnF.lt{w:World}{a:Addr}(h:UnF w a):a.block<w.heap.size:=by obtain⟨u,hu⟩:=h.1;exact World.block_lt_of_cell? w a hu
theorem UnF.below{w w':World}{a:Addr}(h:UnF w a)(hb:Below w.heap.size w w'):UnF w' a:=h.on (hb.block _ h.lt)
theorem PlnF.below{w w':World}{a:Addr}(h:PlnF w a)(hb:Below w.heap.size w w'):PlnF w' a:=h.on (hb.block _ (by obtain⟨c,t,h⟩:=h;exact(Array.getElem?_eq_some_iff.1 h).1))
theorem SC.below{w w':World}{sb mb:Nat}{ex:Prop}{F:Addr→Int→Prop}(h:SC w sb mb ex F)(hb:Below w.heap.size w w'):SC w' sb mb ex F:=h.on (hb.block _ h.lt) (h.mp.on (hb.block _ h.mp.lt) (fun _ ha=>ha.below hb) fun _ ha=>ha.below hb)
theorem QQ(w:World):Calls Tryz.prog 27 #[] w fun e w'=>e=.returned (.agg iC)∧Below w.heap.size w w':=by
 go_enter Tryz.func27,Tryz.ntmps27
 go_wp2_with (refine wpList_store_row rfl 75 (.tmp 0) (.tmp 1) rfl w.heap.size iC (by simp[Act.eval]) (by simp[Act.eval]) 75 #[.nilFunc,.nilFunc,.nilFunc,.int .i64 0,.int .i64 0] (heap_alloc_new _ _) (by kernel_rfl) rfl (by simp[Value.oneCell']) ?_)
 rw[World.setRow_alloc_new]
 refine bodyPost_ret (v:=.agg iC) (results_cell_row Tryz.results27 _ _ w.heap.size 75 iC (0,0) _ (by first|rfl|simp) (heap_alloc_new _ _) Tryz.underlying75 rfl rfl) rfl ?_
 exact⟨rfl,bA _ _⟩
theorem MH(b o:Nat)(w:World):Calls Tryz.prog 62 #[.pointer (some ⟨b,o,none⟩)] w fun e w'=>e=.returned (.pointer (some ⟨b,o+3,none⟩))∧w'=w:=by
 go_enter Tryz.func62,Tryz.ntmps62
 go_wp2
 go_ret
 exact⟨rfl,rfl⟩
theorem kI{b o:Nat}{la:Option Addr}{n lc:Nat}{w:World}(hc:w.cell? ⟨b,o+2,none⟩=some (.slice la n lc))(hn:n≤1000000):Calls Tryz.prog 65 #[.pointer (some ⟨b,o,none⟩)] w fun e w'=>e=.returned (.int .i64 (1+n))∧w'=w:=by
 have hw:IntKind.i64.wrap (1+(n:Int))=1+(n:Int):=by rw[IntKind.wrap_i64];omega
 go_enter Tryz.func65,Tryz.ntmps65
 go_wp2
 go_ret
 exact⟨rfl,rfl⟩
theorem CG{w:World}{sb:Nat}(c3:w.cell? ⟨sb,3,none⟩=some (.int .i64 67108864)):Calls Tryz.prog 132 #[.pointer (some ⟨sb,0,none⟩)] w fun e w'=>e=.returned (.int .i64 67108865)∧w'=w:=by
 go_enter Tryz.func132,Tryz.ntmps132
 go_wp2
 go_ret
 exact⟨rfl,rfl⟩
theorem OQ(ex:Prop)(w:World):Calls Tryz.prog 66 #[.agg iC] w fun e w'=>∃sb mb,e=.returned (.pointer (some ⟨sb,0,none⟩))∧SC w' sb mb ex (fun _ _=>False)∧w.heap.size≤sb∧w.heap.size≤mb∧Below w.heap.size w w':=by
 have hmm:=@run_makeMap Tryz.prog
 go_enter Tryz.func66,Tryz.ntmps66
 go_wp2
 go_ret
 have e2:((w.alloc (.cells iC 75)).alloc (.map #[] 0)).heap.size=w.heap.size+1+1:=by simp
 have e1:(w.alloc (.cells iC 75)).heap.size=w.heap.size+1:=by simp
 refine⟨w.heap.size+1+1,w.heap.size+1,rfl,⟨?_,#[],0,?_,(fun _ he=>by cases he),fun _=>List.Pairwise.nil⟩,by omega,by omega,((bA _ _).alloc (by omega) _).alloc (by omega) _⟩
 ·have:=heap_alloc_new ((w.alloc (.cells iC 75)).alloc (.map #[] 0)) (.cells #[.func (.func 62) #[] #[],.func (.func 63) #[] #[],.func (.func 65) #[] #[],.int .i64 67108864,.int .i64 600,.map (some (w.heap.size+1))] 157)
  rw[e2] at this
  exact this
 ·rw[Below.heap_alloc _ _ _ (by omega)]
  have:=heap_alloc_new (w.alloc (.cells iC 75)) (.map #[] 0)
  rw[e1] at this
  exact this
structure NdW(w:World)(b o m n:Nat)(ka:Option Addr)(kc:Nat):Prop where
 c2:∃la lc,w.cell? ⟨b,o+2,none⟩=some (.slice la m lc)
 hm:m≤1000000
 c3:w.cell? ⟨b,o+3,none⟩=some (.slice ka n kc)
 uf:UnF w ⟨b,o,none⟩
theorem NdW.on{w w':World}{b o m n kc:Nat}{ka:Option Addr}(h:NdW w b o m n ka kc)(hb:w'.heap[b]?=w.heap[b]?):NdW w' b o m n ka kc:=by
 obtain⟨la,lc,h2⟩:=h.c2
 exact⟨⟨la,lc,(World.cell?_of_block (a:=⟨b,o+2,none⟩) hb).trans h2⟩,h.hm,(World.cell?_of_block (a:=⟨b,o+3,none⟩) hb).trans h.c3,h.uf.on hb⟩
theorem NdW.lt{w:World}{b o m n kc:Nat}{ka:Option Addr}(h:NdW w b o m n ka kc):b<w.heap.size:=dA h.c3
theorem FP{w:World}{sb mb b o m n kc:Nat}{ka:Option Addr}{ex:Prop}{F:Addr→Int→Prop}(h:SC w sb mb ex F)(hn:NdW w b o m n ka kc)(hp:ex→PlnF w ⟨b,o,none⟩):
 Calls Tryz.prog 103 #[.pointer (some ⟨sb,0,none⟩),.pointer (some ⟨b,o,none⟩)] w fun e w'=>∃(x:Int) (is:Bool) (k:Nat),e=.returned (.tuple #[.int .i64 x,.bool is])∧(n=0→is=true∧x=1+m)∧(n≠0→is=true→∃c,F c x∧(ex→c=⟨b,o,none⟩))∧w'=w.drewN k:=by
 obtain⟨c0,c1,c2,c3,c4,c5⟩:=nU h.bk
 obtain⟨la,lc,d2⟩:=hn.c2
 have hm:=hn.hm
 have d3:=hn.c3
 have HK:=aA (MH b o w)
 by_cases h0:n=0
 ·subst h0
  have HW:=aA (kI d2 hm)
  have HT:=aA (CG c3)
  have hmin:min (1+(m:Int)) 67108865=1+(m:Int):=by omega
  clear h hn hm hp
  go_enter Tryz.func103,Tryz.ntmps103
  go_wp2_with (first|(go_at_call 62;refine HK.out.mono ?_;rintro e w1 ⟨rfl,ew⟩;subst w1)|(go_at_call 65;refine HW.out.mono ?_;rintro e w1 ⟨rfl,ew⟩;subst w1)|(go_at_call 132;refine HT.out.mono ?_;rintro e w1 ⟨rfl,ew⟩;subst w1))
  all_goals go_ret2
  all_goals exact⟨_,true,0,rfl,fun _=>⟨rfl,(by first|exact hmin|rfl)⟩,fun e=>absurd rfl e,rfl⟩
 ·have hnz:¬(n:Int)=0:=by omega
  obtain⟨x,is,k,hrun,_,h2⟩:=h.mp.look hn.uf hp
  have hB:=aA h2
  have hz:=aA h0
  clear h hn h0 h2 d2 hm hp
  go_enter Tryz.func103,Tryz.ntmps103
  go_wp2_with (first|(go_at_call 62;refine HK.out.mono ?_;rintro e w1 ⟨rfl,ew⟩;subst w1))
  go_ret2
  exact⟨x,is,k,rfl,fun e=>absurd e hz.out,fun _=>hB.out,rfl⟩
structure Ent where
 nb:Nat
 no:Nat
 la:Option Addr
 lc:Nat
 ls:List It
 x:Int
 t:It
def encE:Enc Ent:=⟨fun e=>[.pointer (some ⟨e.nb,e.no,none⟩),.slice e.la e.ls.length e.lc,.int .i64 e.x],3,by decide,fun _=>rfl,fun _ u hu=>by
 simp only[List.mem_cons,List.not_mem_nil,or_false] at hu
 rcases hu with rfl|rfl|rfl<;>rfl⟩
structure MpF(w w':World)(mb:Nat):Prop where
 os:w'.os=w.os
 tape:w'.tape=w.tape
 output:w'.output=w.output
 size:w.heap.size≤w'.heap.size
 block:∀k,k<w.heap.size→k≠mb→w'.heap[k]?=w.heap[k]?
end Go.Proofs.YtpbolcjcmkmalaaGreatDoor

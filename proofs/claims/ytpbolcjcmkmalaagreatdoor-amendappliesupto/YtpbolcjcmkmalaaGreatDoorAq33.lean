import Derived.Test.YtpbolcjcmkmalaaGreatDoorAq00
import Derived.Test.YtpbolcjcmkmalaaGreatDoorAq25
set_option maxHeartbeats 20000000
set_option maxRecDepth 20000
namespace Go.Proofs.YtpbolcjcmkmalaaGreatDoor
open Go.RowKit Go.Extern.Stop Go.Stop Go.Extern
theorem fO{w:World}{N:Nat}{ex:Prop}{t:It}{v:Nat→Value}(hv:SrcT w N ex v t)(hN:N≤w.heap.size)(hz:EB t≤400000)(hx:ex∨EB t≤600):
 Calls Tryz.prog 17 #[.agg #[v 0,v 1,v 2,v 3]] w fun e w'=>∃v' S,e=.returned (.agg #[v' 0,v' 1,v' 2,v' 3])∧Own w' w.heap.size v' t S∧Below w.heap.size w w':=by
 obtain⟨f0,f1,la,lc,f2,_⟩:=hv.texts
 obtain⟨ka,kc,K,hfk⟩:=hv.fk
 have f3:=hfk.is
 have hv4:#[v 0,v 1,v 2,v 3]=#[.string t.label,.string t.head,.slice la t.lines.length lc,.slice ka t.kids.length kc]:=by rw[f0,f1,f2,f3]
 obtain⟨W2,hW2⟩:∃W2,W2=(w.alloc (.cells #[.string t.label,.string t.head,.slice la t.lines.length lc,.slice ka t.kids.length kc] rA)).alloc (.cells #[.string ⟨#[]⟩,.string ⟨#[]⟩,.slice none 0 0,.slice none 0 0] rA):=⟨_,rfl⟩
 have hs2:W2.heap.size=w.heap.size+2:=by rw[hW2];simp
 have hb2:Below w.heap.size w W2:=by rw[hW2];exact(bA _ _).alloc (by simp) _
 have hg0:W2.heap[w.heap.size]?=some (.cells #[.string t.label,.string t.head,.slice la t.lines.length lc,.slice ka t.kids.length kc] rA (0,0)):=by
  rw[hW2,Below.heap_alloc _ _ _ (by simp)]
  exact heap_alloc_new _ _
 have hg1:W2.heap[w.heap.size+1]?=some (.cells #[.string ⟨#[]⟩,.string ⟨#[]⟩,.slice none 0 0,.slice none 0 0] rA (0,0)):=by
  rw[hW2]
  have:=heap_alloc_new (w.alloc (.cells #[.string t.label,.string t.head,.slice la t.lines.length lc,.slice ka t.kids.length kc] rA)) (.cells #[.string ⟨#[]⟩,.string ⟨#[]⟩,.slice none 0 0,.slice none 0 0] rA)
  rw[show (w.alloc (.cells #[.string t.label,.string t.head,.slice la t.lines.length lc,.slice ka t.kids.length kc] rA)).heap.size=w.heap.size+1 by simp] at this
  exact this
 have HCp:Hid (∀W,Below W2.heap.size W2 W→Calls Tryz.prog 28 #[.agg iC,.agg #[.string t.label,.string t.head,.slice la t.lines.length lc,.slice ka t.kids.length kc]] W fun e w'=>∃v' S,e=.returned (.agg #[v' 0,v' 1,v' 2,v' 3])∧Own w' W.heap.size v' t S∧Below W.heap.size W w'):=fun W hW=>by
  rw[←hv4]
  exact yP (hv.on fun q hq=>(hW.block q (by omega)).trans (hb2.block q (by omega))) (by have:=hW.size;omega) hz hx
 rw[hv4]
 obtain⟨x0,x1,x2,x3,xf⟩:=gA hg0
 have HX:=aA hW2
 have HB:=aA (aI hb2 (aI hg1 hs2))
 have HG0:=aA hg0
 have hr1:w.heap.size<W2.heap.size:=by omega
 clear hW2 hb2 hg0 hg1 hs2 hv hfk f0 f1 f2 f3 hv4 hx hz hN
 go_enter Tryz.func17,Tryz.ntmps17
 go_upto_region 1 with fail
 rw[←HX.out]
 have HCx:Hid (∀W,Below W2.heap.size W2 W→(W.cell? ⟨w.heap.size,0,none⟩=some (.string t.label)∧W.cell? ⟨w.heap.size,1,none⟩=some (.string t.head)∧W.cell? ⟨w.heap.size,2,none⟩=some (.slice la t.lines.length lc)∧W.cell? ⟨w.heap.size,3,none⟩=some (.slice ka t.kids.length kc))):=fun W hW=>⟨(hW.cell (p:=⟨w.heap.size,0,none⟩) (dA x0)).trans x0,(hW.cell (p:=⟨w.heap.size,1,none⟩) (dA x1)).trans x1,(hW.cell (p:=⟨w.heap.size,2,none⟩) (dA x2)).trans x2,(hW.cell (p:=⟨w.heap.size,3,none⟩) (dA x3)).trans x3⟩
 have hse:w.heap.size+1≠w.heap.size:=by omega
 have HFin:Hid (∀w4 w5,Below W2.heap.size W2 w4→∀v' S,Own w5 w4.heap.size v' t S→Below w4.heap.size w4 w5→(w5.heap[w.heap.size+1]?=some (.cells #[.string ⟨#[]⟩,.string ⟨#[]⟩,.slice none 0 0,.slice none 0 0] rA (0,0))∧Below W2.heap.size W2 w5)∧∀u0 u1 u2 u3,Own ((((w5.setCell ⟨w.heap.size+1,0,none⟩ u0).setCell ⟨w.heap.size+1,1,none⟩ u1).setCell ⟨w.heap.size+1,2,none⟩ u2).setCell ⟨w.heap.size+1,3,none⟩ u3) w.heap.size v' t S∧Below w.heap.size w ((((w5.setCell ⟨w.heap.size+1,0,none⟩ u0).setCell ⟨w.heap.size+1,1,none⟩ u1).setCell ⟨w.heap.size+1,2,none⟩ u2).setCell ⟨w.heap.size+1,3,none⟩ u3)):=fun w4 w5 hb4 v' S ho hb5=>by
  have h1:=HB.out.2.2
  have h2:=hb4.size
  refine⟨⟨?_,hb4.trans (hb5.mono h2)⟩,fun u0 u1 u2 u3=>⟨(ho.base (by omega)).step (fun g hg=>PA (by have:=ho.in g hg;omega)) (by simp),?_⟩⟩
  ·rw[hb5.block _ (by omega),hb4.block _ (by omega)]
   exact HB.out.2.1
  ·have h3:=HB.out.1.trans ((hb4.trans (hb5.mono h2)).mono (by omega))
   exact⟨h3.os,h3.tape,h3.output,by have:=h3.size;simpa using this,fun k hk=>(PA (by omega)).trans (h3.block k hk)⟩
 go_region_held3 (fun V=>V.cell? ⟨w.heap.size,0,none⟩=some (.string t.label)∧V.cell? ⟨w.heap.size,1,none⟩=some (.string t.head)∧V.cell? ⟨w.heap.size,2,none⟩=some (.slice la t.lines.length lc)∧V.cell? ⟨w.heap.size,3,none⟩=some (.slice ka t.kids.length kc)) (first|exact⟨x0,x1,x2,x3⟩|exact⟨z0,z1,z2,z3⟩|go_keep) (first|(go_simp;go_at_call 27;refine(QQ W2.drew).mono ?_;rintro e w4 ⟨rfl,hb4⟩;(have hb4':Below W2.heap.size W2 w4:=⟨hb4.os,hb4.tape,hb4.output,hb4.size,hb4.block⟩);(obtain⟨z0,z1,z2,z3⟩:=HCx.out w4 hb4');(have H4:=aA hb4');clear hb4 hb4')|(go_simp;go_at_call 28;refine(HCp.out w4 H4.out).mono ?_;rintro e w5 ⟨v',S,rfl,ho5,hb5⟩;(obtain⟨⟨hc5,hb5'⟩,hend⟩:=HFin.out w4 w5 H4.out v' S ho5 hb5);clear z0 z1 z2 z3;(obtain⟨z0,z1,z2,z3⟩:=HCx.out w5 hb5');(obtain⟨q0,q1,⟨qa,qc,q2⟩,qka,qkc,q3⟩:=ho5.lies.forms);(obtain⟨r0,r1,r2,r3,rf⟩:=gA hc5);(have H5:=aA (aI hc5 hend));(have HQ:=aA (aI q0 (aI q1 (aI q2 q3))));(rw[q0,q1,q2,q3]);clear ho5 hb5 hc5 hb5' hend q0 q1 q2 q3))
 all_goals go_wp2
 all_goals refine bodyPost_ret (v:=.agg #[.string t.label,.string t.head,.slice qa t.lines.length qc,.slice qka t.kids.length qkc]) (results_cell_row Tryz.results17 _ _ (w.heap.size+1) rA #[.string t.label,.string t.head,.slice qa t.lines.length qc,.slice qka t.kids.length qkc] (0,0) _ (by first|rfl|simp) (NA H5.out.1) Tryz.underlying25 rfl rfl) rfl ?_
 all_goals refine⟨v',S,?_,H5.out.2 _ _ _ _⟩
 all_goals rw[HQ.out.1,HQ.out.2.1,HQ.out.2.2.1,HQ.out.2.2.2]
end Go.Proofs.YtpbolcjcmkmalaaGreatDoor

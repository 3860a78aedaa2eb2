import Derived.Test.YtehbinobohjadaaGreatDoorTm00
import Derived.Test.YtehbinobohjadaaGreatDoorTm09
import Derived.Test.YtehbinobohjadaaGreatDoorTm03
import Derived.Test.YtehbinobohjadaaGreatDoorProg
import Derived.WalkKit
import Derived.Below
import Derived.Outline
import Derived.Laws.OwnMore
import Derived.OneCell
import Derived.Deep.OwnRows
import Derived.Deep.MidRow
import Derived.Maps.AppendAt
import Derived.Deep.QuietTactic
import Derived.BigQuiet
import Derived.Deep.RegionLaw
import Derived.Deep.RegionWith
import Derived.Deep.DeepCutAuto
import Derived.Deep.RegionLawGrows
set_option maxHeartbeats 20000000
set_option maxRecDepth 20000
namespace Go.Proofs.YtehbinobohjadaaGreatDoor
open Go.RowKit Go.Extern.Stop Go.Stop Go.Extern
def VK(L:List Tok)(bp tb cp:Nat)(w:World)(c a:Nat)(e:Ending)(w':World):Prop:=(∃(s0 s1:ByteArray) (n2:Int) (ka:Option Addr) (kn kc:Nat),e=.returned (.agg #[.string s0,.string s1,.int .i64 n2,.slice ka kn kc]))∧PBad L bp tb cp w' c a∧BelX w.heap.size bp w w'
theorem gA{W W1:World}{g:Nat}{a b c d:Value}{t:TypeId}(h:W.heap[g]?=some (.cells #[a,b,c,d] t (0,0)))(hb:W1.heap[g]?=W.heap[g]?):W1.cell? ⟨g,0,none⟩=some a∧W1.cell? ⟨g,1,none⟩=some b∧W1.cell? ⟨g,2,none⟩=some c∧W1.cell? ⟨g,3,none⟩=some d∧∀i,W1.frozen? ⟨g,i,none⟩=false:=tA (hb.trans h)
theorem EG{L:List Tok}{bp tb cp:Nat}{w:World}{c a:Nat}(h:PBad L bp tb cp w c a):
 Calls Tryz.prog 30 #[.pointer (some ⟨bp,0,none⟩)] w fun e w'=>e=.returned (.agg #[.string ⟨#[120]⟩,.string ⟨#[]⟩,.int .i64 0,.int .i64 0])∧Below w.heap.size w w':=by
 obtain⟨hc,k,n,h⟩:=h
 exact QL h hc
structure Start(w W1:World):Prop where
 bel:Below w.heap.size w W1
 blk:W1.heap[w.heap.size]?=some (.cells #[.string ⟨#[]⟩,.string ⟨#[]⟩,.int .i64 0,.slice none 0 0] 44 (0,0))
 lt:w.heap.size<W1.heap.size
theorem Start.new(w:World):Start w (w.alloc (.cells #[.string ⟨#[]⟩,.string ⟨#[]⟩,.int .i64 0,.slice none 0 0] 44)):=⟨bA _ _,heap_alloc_new _ _,by simp⟩
theorem SG{w W:World}{bp:Nat}(h:BelX w.heap.size bp w W)(a b c d:Value):BelX w.heap.size bp w ((((W.setCell ⟨w.heap.size,0,none⟩ a).setCell ⟨w.heap.size,1,none⟩ b).setCell ⟨w.heap.size,2,none⟩ c).setCell ⟨w.heap.size,3,none⟩ d):=
 (((h.setCell (p:=⟨w.heap.size,0,none⟩) (.inl (nR _)) a).setCell (p:=⟨w.heap.size,1,none⟩) (.inl (nR _)) b).setCell (p:=⟨w.heap.size,2,none⟩) (.inl (nR _)) c).setCell (p:=⟨w.heap.size,3,none⟩) (.inl (nR _)) d
theorem PS.set4{L:List Tok}{bp tb cp:Nat}{W:World}{k:Nat}{n:Int}{cd ps:Nat}(h:PS L bp tb cp W k n cd ps)(g:Nat)(hg:g≠bp)(ht:g≠tb)(a b c d:Value):PS L bp tb cp ((((W.setCell ⟨g,0,none⟩ a).setCell ⟨g,1,none⟩ b).setCell ⟨g,2,none⟩ c).setCell ⟨g,3,none⟩ d) k n cd ps:=by
 have hb:∀q,q≠g→((((W.setCell ⟨g,0,none⟩ a).setCell ⟨g,1,none⟩ b).setCell ⟨g,2,none⟩ c).setCell ⟨g,3,none⟩ d).heap[q]?=W.heap[q]?:=fun q hq=>by
  rw[Below.heap_setCell _ _ _ _ hq,Below.heap_setCell _ _ _ _ hq,Below.heap_setCell _ _ _ _ hq,Below.heap_setCell _ _ _ _ hq]
 exact⟨(hb bp (fun e=>hg e.symm)).trans h.blk,fun i t e q hq=>(World.cell?_of_block (a:=⟨tb,i * 4+q,none⟩) (hb tb (fun e=>ht e.symm))).trans (h.tok i t e q hq),h.ne,h.lt,h.len,h.bc⟩
theorem DM{L:List Tok}{bp tb cp:Nat}{w:World}{c a:Nat}(h:PBad L bp tb cp w c a):
 Calls Tryz.prog 133 #[.pointer (some ⟨bp,0,none⟩)] w fun e w'=>VK L bp tb cp w c a e w':=by
 have HP:=aA h
 obtain⟨W1,hW1⟩:∃W1,W1=w.alloc (.cells #[.string ⟨#[]⟩,.string ⟨#[]⟩,.int .i64 0,.slice none 0 0] 44):=⟨_,rfl⟩
 have hst:Start w W1:=by rw[hW1];exact Start.new w
 have hlt:=hst.lt
 have HS:=aA (EG (h.below hst.bel))
 have HX:=aA hW1
 have HT:=aA hst
 clear h hW1 hst
 go_enter Tryz.func133,Tryz.ntmps133
 go_wp2_with (rw[←HX.out];go_at_call 30;refine HS.out.mono ?_;rintro e W2 ⟨rfl,hB2⟩;have hB3:=hB2.alloc hB2.size (.cells #[.string ⟨#[120]⟩,.string ⟨#[]⟩,.int .i64 0,.int .i64 0] 82);obtain⟨q0,q1,q2,q3,qf⟩:=gA HT.out.blk (hB3.block _ hlt);have HQ:=aA hB3;clear hB2 hB3)
 refine bodyPost_ret (v:=.agg #[.string ⟨#[]⟩,.string ⟨#[]⟩,.int .i64 0,.slice none 0 0]) (by simp[results,Tryz.results133,go_sem,q0,q1,q2,q3]) rfl ?_
 have h2:Below w.heap.size w (W2.alloc (.cells #[.string ⟨#[120]⟩,.string ⟨#[]⟩,.int .i64 0,.int .i64 0] 82)):=⟨HQ.out.os.trans HT.out.bel.os,HQ.out.tape.trans HT.out.bel.tape,HQ.out.output.trans HT.out.bel.output,Nat.le_trans HT.out.bel.size HQ.out.size,fun q hq=>(HQ.out.block q (by omega)).trans (HT.out.bel.block q hq)⟩
 refine⟨⟨_,_,_,_,_,_,rfl⟩,?_,SG (Below.x h2 bp (nR _)) _ _ _ _⟩
 obtain⟨hc,k,n,hP⟩:=HP.out
 have h3:=hP.in
 have h4:=hP.tin
 exact⟨hc,k,n,(hP.below h2).set4 (W:=W2.alloc (.cells #[.string ⟨#[120]⟩,.string ⟨#[]⟩,.int .i64 0,.int .i64 0] 82)) w.heap.size (by omega) (by omega) _ _ _ _⟩
theorem KL{L:List Tok}{bp tb cp:Nat}{w:World}{c a:Nat}(h:PBad L bp tb cp w c a):
 Calls Tryz.prog 113 #[.pointer (some ⟨bp,0,none⟩)] w fun e w'=>VK L bp tb cp w c a e w':=by
 have hbp:bp<w.heap.size:=by obtain⟨_,_,_,h1⟩:=h;exact h1.in
 have htb:tb<w.heap.size:=by obtain⟨_,_,_,h1⟩:=h;exact h1.tin
 obtain⟨W1,hW1⟩:∃W1,W1=w.alloc (.cells #[.string ⟨#[]⟩,.string ⟨#[]⟩,.int .i64 0,.slice none 0 0] 44):=⟨_,rfl⟩
 have hst:Start w W1:=by rw[hW1];exact Start.new w
 have hlt:=hst.lt
 have HF:=aA (DM (h.below hst.bel))
 have HX:=aA hW1
 have HT:=aA hst
 clear h hW1 hst
 go_enter Tryz.func113,Tryz.ntmps113
 go_wp2_with (rw[←HX.out];go_at_call 133;refine HF.out.mono ?_;rintro e W2 ⟨⟨s0,s1,n2,ka,kn,kc,rfl⟩,hP2,hB2⟩;have HQ:=aA (aI hP2 hB2);clear hP2 hB2)
 obtain⟨W3,hW3⟩:∃W3,W3=W2.alloc (.cells #[.string s0,.string s1,.int .i64 n2,.slice ka kn kc] 44):=⟨_,rfl⟩
 have h23:Below W2.heap.size W2 W3:=by rw[hW3];exact bA _ _
 have h13:BelX w.heap.size bp w W3:=((Below.x HT.out.bel bp (nR _)).then HQ.out.2 HT.out.bel.size).then (Below.x h23 bp (nR _)) (Nat.le_trans HT.out.bel.size HQ.out.2.size)
 have hP3:=HQ.out.1.below h23
 obtain⟨n0,n1,n2c,n3,nf⟩:=tA (show W3.heap[W2.heap.size]?=some (.cells #[.string s0,.string s1,.int .i64 n2,.slice ka kn kc] 44 (0,0)) by rw[hW3];exact heap_alloc_new _ _)
 have hr3:W3.heap[w.heap.size]?=W1.heap[w.heap.size]?:=(h23.block _ (Nat.lt_of_lt_of_le hlt HQ.out.2.size)).trans (HQ.out.2.block _ hlt (by omega))
 have HR3:=aA (hr3.trans HT.out.blk:W3.heap[w.heap.size]?=some (.cells #[.string ⟨#[]⟩,.string ⟨#[]⟩,.int .i64 0,.slice none 0 0] 44 (0,0)))
 have hl3:W2.heap.size<W3.heap.size:=by rw[hW3];simp
 have hl4:w.heap.size<W3.heap.size:=Nat.lt_of_lt_of_le (Nat.lt_of_lt_of_le hlt HQ.out.2.size) (Nat.le_of_lt hl3)
 rw[←hW3]
 have HTk:=aA (fun s=>aF hP3 s)
 have H3:=aA (aI h13 hP3)
 clear hW3 h23 h13 hP3 hr3
 go_loopw [] (fun wr=>wr=W3) (fun _=>0)
 case atStart=>rfl
 case round=>
  subst hrel
  go_wp2_with (go_at_call 64;refine(HTk.out _).mono ?_;rintro e W4 ⟨rfl,hB4⟩;obtain⟨q0,q1,q2,q3,qf⟩:=gA HR3.out (hB4.block _ hl4);have m0:=(hB4.cell (p:=⟨W2.heap.size,0,none⟩) hl3).trans n0;have m1:=(hB4.cell (p:=⟨W2.heap.size,1,none⟩) hl3).trans n1;have m2:=(hB4.cell (p:=⟨W2.heap.size,2,none⟩) hl3).trans n2c;have m3:=(hB4.cell (p:=⟨W2.heap.size,3,none⟩) hl3).trans n3;have HQ4:=aA hB4;clear hB4)
  refine bodyPost_ret (v:=.agg #[.string s0,.string s1,.int .i64 n2,.slice ka kn kc]) (by simp[results,Tryz.results113,go_sem,q0,q1,q2,q3]) rfl ?_
  have h5:=H3.out.1.then (Below.x HQ4.out bp (nR _)) H3.out.1.size
  refine⟨⟨_,_,_,_,_,_,rfl⟩,?_,SG h5 _ _ _ _⟩
  obtain⟨hc,k,n,hP⟩:=H3.out.2.below HQ4.out
  exact⟨hc,k,n,hP.set4 w.heap.size (by omega) (by omega) _ _ _ _⟩
theorem GG{L:List Tok}{bp tb cp:Nat}{w:World}{c a:Nat}(h:PBad L bp tb cp w c a):
 Calls Tryz.prog 67 #[.pointer (some ⟨bp,0,none⟩)] w fun e w'=>VK L bp tb cp w c a e w':=by
 have hbp:bp<w.heap.size:=by obtain⟨_,_,_,h1⟩:=h;exact h1.in
 have htb:tb<w.heap.size:=by obtain⟨_,_,_,h1⟩:=h;exact h1.tin
 obtain⟨W1,hW1⟩:∃W1,W1=w.alloc (.cells #[.string ⟨#[]⟩,.string ⟨#[]⟩,.int .i64 0,.slice none 0 0] 44):=⟨_,rfl⟩
 have hst:Start w W1:=by rw[hW1];exact Start.new w
 have hlt:=hst.lt
 have HF:=aA (KL (h.below hst.bel))
 have HX:=aA hW1
 have HT:=aA hst
 clear h hW1 hst
 go_enter Tryz.func67,Tryz.ntmps67
 go_wp2_with (rw[←HX.out];go_at_call 113;refine HF.out.mono ?_;rintro e W2 ⟨⟨s0,s1,n2,ka,kn,kc,rfl⟩,hP2,hB2⟩;have HQ:=aA (aI hP2 hB2);clear hP2 hB2)
 obtain⟨W3,hW3⟩:∃W3,W3=W2.alloc (.cells #[.string s0,.string s1,.int .i64 n2,.slice ka kn kc] 44):=⟨_,rfl⟩
 have h23:Below W2.heap.size W2 W3:=by rw[hW3];exact bA _ _
 have h13:BelX w.heap.size bp w W3:=((Below.x HT.out.bel bp (nR _)).then HQ.out.2 HT.out.bel.size).then (Below.x h23 bp (nR _)) (Nat.le_trans HT.out.bel.size HQ.out.2.size)
 have hP3:=HQ.out.1.below h23
 obtain⟨n0,n1,n2c,n3,nf⟩:=tA (show W3.heap[W2.heap.size]?=some (.cells #[.string s0,.string s1,.int .i64 n2,.slice ka kn kc] 44 (0,0)) by rw[hW3];exact heap_alloc_new _ _)
 have hr3:W3.heap[w.heap.size]?=W1.heap[w.heap.size]?:=(h23.block _ (Nat.lt_of_lt_of_le hlt HQ.out.2.size)).trans (HQ.out.2.block _ hlt (by omega))
 have HR3:=aA (hr3.trans HT.out.blk:W3.heap[w.heap.size]?=some (.cells #[.string ⟨#[]⟩,.string ⟨#[]⟩,.int .i64 0,.slice none 0 0] 44 (0,0)))
 have hl3:W2.heap.size<W3.heap.size:=by rw[hW3];simp
 have hl4:w.heap.size<W3.heap.size:=Nat.lt_of_lt_of_le (Nat.lt_of_lt_of_le hlt HQ.out.2.size) (Nat.le_of_lt hl3)
 rw[←hW3]
 have HTk:=aA (EG hP3)
 have H3:=aA (aI h13 hP3)
 clear hW3 h23 h13 hP3 hr3
 go_loopw [] (fun wr=>wr=W3) (fun _=>0)
 case atStart=>rfl
 case round=>
  subst hrel
  go_wp2_with (go_at_call 30;refine HTk.out.mono ?_;rintro e W4 ⟨rfl,hB40⟩;have hB4:=hB40.alloc hB40.size (.cells #[.string ⟨#[120]⟩,.string ⟨#[]⟩,.int .i64 0,.int .i64 0] 82);obtain⟨q0,q1,q2,q3,qf⟩:=gA HR3.out (hB4.block _ hl4);have m0:=(hB4.cell (p:=⟨W2.heap.size,0,none⟩) hl3).trans n0;have m1:=(hB4.cell (p:=⟨W2.heap.size,1,none⟩) hl3).trans n1;have m2:=(hB4.cell (p:=⟨W2.heap.size,2,none⟩) hl3).trans n2c;have m3:=(hB4.cell (p:=⟨W2.heap.size,3,none⟩) hl3).trans n3;have HQ4:=aA hB4;clear hB4 hB40)
  refine bodyPost_ret (v:=.agg #[.string s0,.string s1,.int .i64 n2,.slice ka kn kc]) (by simp[results,Tryz.results67,go_sem,q0,q1,q2,q3]) rfl ?_
  have h5:=H3.out.1.then (Below.x HQ4.out bp (nR _)) H3.out.1.size
  refine⟨⟨_,_,_,_,_,_,rfl⟩,?_,SG h5 _ _ _ _⟩
  obtain⟨hc,k,n,hP⟩:=H3.out.2.below HQ4.out
  exact⟨hc,k,n,hP.set4 w.heap.size (by omega) (by omega) _ _ _ _⟩
theorem LR{L:List Tok}{bp tb cp:Nat}{w:World}{c a:Nat}(h:PBad L bp tb cp w c a):
 Calls Tryz.prog 147 #[.pointer (some ⟨bp,0,none⟩)] w fun e w'=>VK L bp tb cp w c a e w':=by
 have HP:=aA h
 obtain⟨W1,hW1⟩:∃W1,W1=w.alloc (.cells #[.string ⟨#[]⟩,.string ⟨#[]⟩,.int .i64 0,.slice none 0 0] 44):=⟨_,rfl⟩
 have hst:Start w W1:=by rw[hW1];exact Start.new w
 have hlt:=hst.lt
 have HS:=aA (EG (h.below hst.bel))
 have HX:=aA hW1
 have HT:=aA hst
 clear h hW1 hst
 go_enter Tryz.func147,Tryz.ntmps147
 go_wp2_with (rw[←HX.out];go_at_call 30;refine HS.out.mono ?_;rintro e W2 ⟨rfl,hB2⟩;have hB3:=hB2.alloc hB2.size (.cells #[.string ⟨#[120]⟩,.string ⟨#[]⟩,.int .i64 0,.int .i64 0] 82);obtain⟨q0,q1,q2,q3,qf⟩:=gA HT.out.blk (hB3.block _ hlt);have HQ:=aA hB3;clear hB2 hB3)
 refine bodyPost_ret (v:=.agg #[.string ⟨#[]⟩,.string ⟨#[]⟩,.int .i64 0,.slice none 0 0]) (by simp[results,Tryz.results147,go_sem,q0,q1,q2,q3]) rfl ?_
 have h2:Below w.heap.size w (W2.alloc (.cells #[.string ⟨#[120]⟩,.string ⟨#[]⟩,.int .i64 0,.int .i64 0] 82)):=⟨HQ.out.os.trans HT.out.bel.os,HQ.out.tape.trans HT.out.bel.tape,HQ.out.output.trans HT.out.bel.output,Nat.le_trans HT.out.bel.size HQ.out.size,fun q hq=>(HQ.out.block q (by omega)).trans (HT.out.bel.block q hq)⟩
 refine⟨⟨_,_,_,_,_,_,rfl⟩,?_,SG (Below.x h2 bp (nR _)) _ _ _ _⟩
 obtain⟨hc,k,n,hP⟩:=HP.out
 have h3:=hP.in
 have h4:=hP.tin
 exact⟨hc,k,n,(hP.below h2).set4 (W:=W2.alloc (.cells #[.string ⟨#[120]⟩,.string ⟨#[]⟩,.int .i64 0,.int .i64 0] 82)) w.heap.size (by omega) (by omega) _ _ _ _⟩
theorem kH{L:List Tok}{bp tb cp:Nat}{w:World}{c a:Nat}(h:PBad L bp tb cp w c a):
 Calls Tryz.prog 132 #[.pointer (some ⟨bp,0,none⟩)] w fun e w'=>VK L bp tb cp w c a e w':=by
 have hbp:bp<w.heap.size:=by obtain⟨_,_,_,h1⟩:=h;exact h1.in
 have htb:tb<w.heap.size:=by obtain⟨_,_,_,h1⟩:=h;exact h1.tin
 obtain⟨W1,hW1⟩:∃W1,W1=w.alloc (.cells #[.string ⟨#[]⟩,.string ⟨#[]⟩,.int .i64 0,.slice none 0 0] 44):=⟨_,rfl⟩
 have hst:Start w W1:=by rw[hW1];exact Start.new w
 have hlt:=hst.lt
 have HI:=aA (by obtain⟨hc,k,n,h1⟩:=h.below hst.bel;exact kQ h1 hc wNot:Calls Tryz.prog 111 #[.pointer (some ⟨bp,0,none⟩),.string wNot] W1 fun e w'=>e=.returned (.bool false)∧Below W1.heap.size W1 w')
 have HF:=aA (fun W (hW:Below W1.heap.size W1 W)=>LR ((h.below hst.bel).below hW))
 have HX:=aA hW1
 have HT:=aA hst
 clear h hW1 hst
 unfold wNot at HI
 go_enter Tryz.func132,Tryz.ntmps132
 go_wp2_with (first|(rw[←HX.out];go_at_call 111;refine HI.out.mono ?_;rintro e W2 ⟨rfl,hB2⟩;have HQ:=aA hB2;clear hB2)|(go_at_call 147;refine(HF.out _ HQ.out).mono ?_;rintro e W3 ⟨⟨s0,s1,n2,ka,kn,kc,rfl⟩,hP3,hB3⟩;obtain⟨q0,q1,q2,q3,qf⟩:=gA HT.out.blk ((hB3.block _ (Nat.lt_of_lt_of_le hlt HQ.out.size) (by omega)).trans (HQ.out.block _ hlt));have HQ3:=aA (aI hP3 hB3);clear hP3 hB3))
 refine bodyPost_ret (v:=.agg #[.string s0,.string s1,.int .i64 n2,.slice ka kn kc]) (by simp[results,Tryz.results132,go_sem,q0,q1,q2,q3]) rfl ?_
 have h5:=((Below.x HT.out.bel bp (nR _)).then (Below.x HQ.out bp (nR _)) HT.out.bel.size).then HQ3.out.2 (Nat.le_trans HT.out.bel.size HQ.out.size)
 refine⟨⟨_,_,_,_,_,_,rfl⟩,?_,SG h5 _ _ _ _⟩
 obtain⟨hc,k,n,hP⟩:=HQ3.out.1
 exact⟨hc,k,n,hP.set4 w.heap.size (by omega) (by omega) _ _ _ _⟩
theorem ZK{L:List Tok}{bp tb cp:Nat}{w:World}{c a:Nat}(h:PBad L bp tb cp w c a):
 Calls Tryz.prog 112 #[.pointer (some ⟨bp,0,none⟩)] w fun e w'=>VK L bp tb cp w c a e w':=by
 have hbp:bp<w.heap.size:=by obtain⟨_,_,_,h1⟩:=h;exact h1.in
 have htb:tb<w.heap.size:=by obtain⟨_,_,_,h1⟩:=h;exact h1.tin
 obtain⟨W1,hW1⟩:∃W1,W1=w.alloc (.cells #[.string ⟨#[]⟩,.string ⟨#[]⟩,.int .i64 0,.slice none 0 0] 44):=⟨_,rfl⟩
 have hst:Start w W1:=by rw[hW1];exact Start.new w
 have hlt:=hst.lt
 have HF:=aA (kH (h.below hst.bel))
 have HX:=aA hW1
 have HT:=aA hst
 clear h hW1 hst
 go_enter Tryz.func112,Tryz.ntmps112
 go_wp2_with (rw[←HX.out];go_at_call 132;refine HF.out.mono ?_;rintro e W2 ⟨⟨s0,s1,n2,ka,kn,kc,rfl⟩,hP2,hB2⟩;have HQ:=aA (aI hP2 hB2);clear hP2 hB2)
 obtain⟨W3,hW3⟩:∃W3,W3=W2.alloc (.cells #[.string s0,.string s1,.int .i64 n2,.slice ka kn kc] 44):=⟨_,rfl⟩
 have h23:Below W2.heap.size W2 W3:=by rw[hW3];exact bA _ _
 have h13:BelX w.heap.size bp w W3:=((Below.x HT.out.bel bp (nR _)).then HQ.out.2 HT.out.bel.size).then (Below.x h23 bp (nR _)) (Nat.le_trans HT.out.bel.size HQ.out.2.size)
 have hP3:=HQ.out.1.below h23
 obtain⟨n0,n1,n2c,n3,nf⟩:=tA (show W3.heap[W2.heap.size]?=some (.cells #[.string s0,.string s1,.int .i64 n2,.slice ka kn kc] 44 (0,0)) by rw[hW3];exact heap_alloc_new _ _)
 have hr3:W3.heap[w.heap.size]?=W1.heap[w.heap.size]?:=(h23.block _ (Nat.lt_of_lt_of_le hlt HQ.out.2.size)).trans (HQ.out.2.block _ hlt (by omega))
 have HR3:=aA (hr3.trans HT.out.blk:W3.heap[w.heap.size]?=some (.cells #[.string ⟨#[]⟩,.string ⟨#[]⟩,.int .i64 0,.slice none 0 0] 44 (0,0)))
 have hl3:W2.heap.size<W3.heap.size:=by rw[hW3];simp
 have hl4:w.heap.size<W3.heap.size:=Nat.lt_of_lt_of_le (Nat.lt_of_lt_of_le hlt HQ.out.2.size) (Nat.le_of_lt hl3)
 rw[←hW3]
 have HTk:=aA (fun s=>aF hP3 s)
 have H3:=aA (aI h13 hP3)
 clear hW3 h23 h13 hP3 hr3
 go_loopw [] (fun wr=>wr=W3) (fun _=>0)
 case atStart=>rfl
 case round=>
  subst hrel
  go_wp2_with (go_at_call 64;refine(HTk.out _).mono ?_;rintro e W4 ⟨rfl,hB4⟩;obtain⟨q0,q1,q2,q3,qf⟩:=gA HR3.out (hB4.block _ hl4);have m0:=(hB4.cell (p:=⟨W2.heap.size,0,none⟩) hl3).trans n0;have m1:=(hB4.cell (p:=⟨W2.heap.size,1,none⟩) hl3).trans n1;have m2:=(hB4.cell (p:=⟨W2.heap.size,2,none⟩) hl3).trans n2c;have m3:=(hB4.cell (p:=⟨W2.heap.size,3,none⟩) hl3).trans n3;have HQ4:=aA hB4;clear hB4)
  refine bodyPost_ret (v:=.agg #[.string s0,.string s1,.int .i64 n2,.slice ka kn kc]) (by simp[results,Tryz.results112,go_sem,q0,q1,q2,q3]) rfl ?_
  have h5:=H3.out.1.then (Below.x HQ4.out bp (nR _)) H3.out.1.size
  refine⟨⟨_,_,_,_,_,_,rfl⟩,?_,SG h5 _ _ _ _⟩
  obtain⟨hc,k,n,hP⟩:=H3.out.2.below HQ4.out
  exact⟨hc,k,n,hP.set4 w.heap.size (by omega) (by omega) _ _ _ _⟩
theorem ZG{L:List Tok}{bp tb cp:Nat}{w:World}{c a:Nat}(h:PBad L bp tb cp w c a):
 Calls Tryz.prog 66 #[.pointer (some ⟨bp,0,none⟩)] w fun e w'=>VK L bp tb cp w c a e w':=by
 have hbp:bp<w.heap.size:=by obtain⟨_,_,_,h1⟩:=h;exact h1.in
 have htb:tb<w.heap.size:=by obtain⟨_,_,_,h1⟩:=h;exact h1.tin
 obtain⟨W1,hW1⟩:∃W1,W1=w.alloc (.cells #[.string ⟨#[]⟩,.string ⟨#[]⟩,.int .i64 0,.slice none 0 0] 44):=⟨_,rfl⟩
 have hst:Start w W1:=by rw[hW1];exact Start.new w
 have hlt:=hst.lt
 have HF:=aA (ZK (h.below hst.bel))
 have HX:=aA hW1
 have HT:=aA hst
 clear h hW1 hst
 go_enter Tryz.func66,Tryz.ntmps66
 go_wp2_with (rw[←HX.out];go_at_call 112;refine HF.out.mono ?_;rintro e W2 ⟨⟨s0,s1,n2,ka,kn,kc,rfl⟩,hP2,hB2⟩;have HQ:=aA (aI hP2 hB2);clear hP2 hB2)
 obtain⟨W3,hW3⟩:∃W3,W3=W2.alloc (.cells #[.string s0,.string s1,.int .i64 n2,.slice ka kn kc] 44):=⟨_,rfl⟩
 have h23:Below W2.heap.size W2 W3:=by rw[hW3];exact bA _ _
 have h13:BelX w.heap.size bp w W3:=((Below.x HT.out.bel bp (nR _)).then HQ.out.2 HT.out.bel.size).then (Below.x h23 bp (nR _)) (Nat.le_trans HT.out.bel.size HQ.out.2.size)
 have hP3:=HQ.out.1.below h23
 obtain⟨n0,n1,n2c,n3,nf⟩:=tA (show W3.heap[W2.heap.size]?=some (.cells #[.string s0,.string s1,.int .i64 n2,.slice ka kn kc] 44 (0,0)) by rw[hW3];exact heap_alloc_new _ _)
 have hr3:W3.heap[w.heap.size]?=W1.heap[w.heap.size]?:=(h23.block _ (Nat.lt_of_lt_of_le hlt HQ.out.2.size)).trans (HQ.out.2.block _ hlt (by omega))
 have HR3:=aA (hr3.trans HT.out.blk:W3.heap[w.heap.size]?=some (.cells #[.string ⟨#[]⟩,.string ⟨#[]⟩,.int .i64 0,.slice none 0 0] 44 (0,0)))
 have hl3:W2.heap.size<W3.heap.size:=by rw[hW3];simp
 have hl4:w.heap.size<W3.heap.size:=Nat.lt_of_lt_of_le (Nat.lt_of_lt_of_le hlt HQ.out.2.size) (Nat.le_of_lt hl3)
 rw[←hW3]
 have HTk:=aA (fun s=>aF hP3 s)
 have H3:=aA (aI h13 hP3)
 clear hW3 h23 h13 hP3 hr3
 go_loopw [] (fun wr=>wr=W3) (fun _=>0)
 case atStart=>rfl
 case round=>
  subst hrel
  go_wp2_with (go_at_call 64;refine(HTk.out _).mono ?_;rintro e W4 ⟨rfl,hB4⟩;obtain⟨q0,q1,q2,q3,qf⟩:=gA HR3.out (hB4.block _ hl4);have m0:=(hB4.cell (p:=⟨W2.heap.size,0,none⟩) hl3).trans n0;have m1:=(hB4.cell (p:=⟨W2.heap.size,1,none⟩) hl3).trans n1;have m2:=(hB4.cell (p:=⟨W2.heap.size,2,none⟩) hl3).trans n2c;have m3:=(hB4.cell (p:=⟨W2.heap.size,3,none⟩) hl3).trans n3;have HQ4:=aA hB4;clear hB4)
  refine bodyPost_ret (v:=.agg #[.string s0,.string s1,.int .i64 n2,.slice ka kn kc]) (by simp[results,Tryz.results66,go_sem,q0,q1,q2,q3]) rfl ?_
  have h5:=H3.out.1.then (Below.x HQ4.out bp (nR _)) H3.out.1.size
  refine⟨⟨_,_,_,_,_,_,rfl⟩,?_,SG h5 _ _ _ _⟩
  obtain⟨hc,k,n,hP⟩:=H3.out.2.below HQ4.out
  exact⟨hc,k,n,hP.set4 w.heap.size (by omega) (by omega) _ _ _ _⟩
def vO(L:List Tok)(bp tb cp:Nat)(w:World)(R:PR Nd)(e:Ending)(w':World):Prop:=
 (∃(s0 s1:ByteArray) (n2:Int) (ka:Option Addr) (kn kc:Nat),e=.returned (.agg #[.string s0,.string s1,.int .i64 n2,.slice ka kn kc])∧PSt L bp tb cp w' R (fun x=>NL w' (fun b=>w.heap.size≤b) (nv (.string s0) (.string s1) (.int .i64 n2) (.slice ka kn kc)) x))∧BelX w.heap.size bp w w'
def OD(L:List Tok)(bp tb cp:Nat)(fn:FuncId)(P:Nat→Nat→PR Nd):Prop:=∀(w:World) (k n:Nat),POk L bp tb cp w k n→P k n≠.out→Calls Tryz.prog fn #[.pointer (some ⟨bp,0,none⟩)] w fun e w'=>vO L bp tb cp w (P k n) e w'
def PV(L:List Tok)(bp tb cp:Nat)(fn:FuncId):Prop:=∀(w:World) (c a:Nat),PBad L bp tb cp w c a→Calls Tryz.prog fn #[.pointer (some ⟨bp,0,none⟩)] w fun e w'=>VK L bp tb cp w c a e w'
theorem QC{L:List Tok}{bp tb cp:Nat}{fn:FuncId}{P:Nat→Nat→PR Nd}(h1:OD L bp tb cp fn P)(h2:PV L bp tb cp fn){w:World}{α:Type}{r:PR α}{V:α→Prop}(h:PSt L bp tb cp w r V)(hn:(r.bind fun _ k n=>P k n)≠.out):
 Calls Tryz.prog fn #[.pointer (some ⟨bp,0,none⟩)] w fun e w'=>vO L bp tb cp w (r.bind fun _ k n=>P k n) e w':=by
 cases r with
 |out=>exact absurd rfl hn
 |bad c a=>
  refine(h2 w c a h).mono ?_
  rintro e w' ⟨⟨s0,s1,n2,ka,kn,kc,rfl⟩,h3,h4⟩
  exact⟨⟨s0,s1,n2,ka,kn,kc,rfl,h3⟩,h4⟩
 |ok x k n=>exact h1 w k n h.1 hn
theorem PBad.set4{L:List Tok}{bp tb cp:Nat}{W:World}{c a:Nat}(h:PBad L bp tb cp W c a)(g:Nat)(hg:g≠bp)(ht:g≠tb)(v0 v1 v2 v3:Value):PBad L bp tb cp ((((W.setCell ⟨g,0,none⟩ v0).setCell ⟨g,1,none⟩ v1).setCell ⟨g,2,none⟩ v2).setCell ⟨g,3,none⟩ v3) c a:=by
 obtain⟨hc,k,n,h⟩:=h
 exact⟨hc,k,n,h.set4 g hg ht _ _ _ _⟩
theorem POk.set4{L:List Tok}{bp tb cp:Nat}{W:World}{k n:Nat}(h:POk L bp tb cp W k n)(g:Nat)(hg:g≠bp)(ht:g≠tb)(v0 v1 v2 v3:Value):POk L bp tb cp ((((W.setCell ⟨g,0,none⟩ v0).setCell ⟨g,1,none⟩ v1).setCell ⟨g,2,none⟩ v2).setCell ⟨g,3,none⟩ v3) k n:=
 ⟨h.s.set4 g hg ht _ _ _ _,h.nb,h.nd⟩
theorem pG{W:World}{g:Nat}(v0 v1 v2 v3:Value){q:Nat}(hq:q≠g):((((W.setCell ⟨g,0,none⟩ v0).setCell ⟨g,1,none⟩ v1).setCell ⟨g,2,none⟩ v2).setCell ⟨g,3,none⟩ v3).heap[q]?=W.heap[q]?:=by
 rw[Below.heap_setCell _ _ _ _ hq,Below.heap_setCell _ _ _ _ hq,Below.heap_setCell _ _ _ _ hq,Below.heap_setCell _ _ _ _ hq]
theorem QE{W:World}{g:Nat}{a b c d:Value}{t:TypeId}(h:W.heap[g]?=some (.cells #[a,b,c,d] t (0,0)))(v0 v1 v2 v3:Value):((((W.setCell ⟨g,0,none⟩ v0).setCell ⟨g,1,none⟩ v1).setCell ⟨g,2,none⟩ v2).setCell ⟨g,3,none⟩ v3).heap[g]?=some (.cells #[v0,v1,v2,v3] t (0,0)):=by
 rw[LA (LA (LA (LA h _) _) _) _]
 simp
theorem lJ{W:World}{g:Nat}(v0 v1 v2 v3:Value):((((W.setCell ⟨g,0,none⟩ v0).setCell ⟨g,1,none⟩ v1).setCell ⟨g,2,none⟩ v2).setCell ⟨g,3,none⟩ v3).heap.size=W.heap.size:=by simp
inductive LoopAt(L:List Tok)(bp tb cp:Nat)(w:World)(R:PR Nd)(lp:Nat→Nd→Nat→Nat→PR Nd)(F g3 g:Nat)(wr:World):Prop
 |mk (f:Nat) (r:PR Nd) (s0 s1:ByteArray) (n2:Int) (ka:Option Addr) (kn kc:Nat) (hg:f≤g) (hF:f≤F)
  (hs:PSt L bp tb cp wr r (fun x=>NL wr (fun b=>w.heap.size<b∧b≠g3) (nv (.string s0) (.string s1) (.int .i64 n2) (.slice ka kn kc)) x)) (hr:r≠.out)
  (hR:(r.bind fun x k n=>lp f x k n)=R) (hc:wr.heap[g3]?=some (.cells #[.string s0,.string s1,.int .i64 n2,.slice ka kn kc] 44 (0,0)))
  (hq:wr.heap[w.heap.size]?=some (.cells #[.string ⟨#[]⟩,.string ⟨#[]⟩,.int .i64 0,.slice none 0 0] 44 (0,0))) (hB:BelX w.heap.size bp w wr) (h3:w.heap.size<g3) (h4:g3<wr.heap.size):LoopAt L bp tb cp w R lp F g3 g wr
theorem vB{L:List Tok}{bp tb cp:Nat}{w W:World}{R:PR Nd}{s0 s1:ByteArray}{n2:Int}{ka:Option Addr}{kn kc:Nat}{P:Nat→Prop}(hbp:bp<w.heap.size)(htb:tb<w.heap.size)
 (h:PSt L bp tb cp W R (fun x=>NL W P (nv (.string s0) (.string s1) (.int .i64 n2) (.slice ka kn kc)) x)) (hP:∀b,P b→w.heap.size<b) (hB:BelX w.heap.size bp w W):
 vO L bp tb cp w R (.returned (.agg #[.string s0,.string s1,.int .i64 n2,.slice ka kn kc])) ((((W.setCell ⟨w.heap.size,0,none⟩ (.string s0)).setCell ⟨w.heap.size,1,none⟩ (.string s1)).setCell ⟨w.heap.size,2,none⟩ (.int .i64 n2)).setCell ⟨w.heap.size,3,none⟩ (.slice ka kn kc)):=by
 refine⟨⟨s0,s1,n2,ka,kn,kc,rfl,?_⟩,SG hB _ _ _ _⟩
 cases R with
 |out=>exact trivial
 |bad c a=>exact PBad.set4 h _ (by omega) (by omega) _ _ _ _
 |ok x k n=>
  refine⟨h.1.set4 _ (by omega) (by omega) _ _ _ _,h.2.step fun b _ hp=>⟨pG _ _ _ _ (by have:=hP b hp;omega),by have:=hP b hp;omega⟩⟩
def mV(W:World)(g3:Nat)(v0 v1 v2:Value)(a0 a1 a2 a3 b0 b1 b2 b3:Value):World:=
 ((((((W.setCell ⟨g3,0,none⟩ v0).setCell ⟨g3,1,none⟩ v1).setCell ⟨g3,2,none⟩ v2).setCell ⟨g3,3,none⟩ (.slice (some ⟨W.heap.size+1,0,none⟩) 2 2)).alloc (.cells #[b0,b1,b2,b3] 44)).alloc (.cells #[a0,a1,a2,a3,b0,b1,b2,b3] 44))
structure Put2(W WF:World)(g3:Nat)(v0 v1 v2:Value)(a b:Nat→Value):Prop where
 os:WF.os=W.os
 tape:WF.tape=W.tape
 output:WF.output=W.output
 size:WF.heap.size=W.heap.size+2
 old:∀q,q<W.heap.size→q≠g3→WF.heap[q]?=W.heap[q]?
 var:WF.heap[g3]?=some (.cells #[v0,v1,v2,.slice (some ⟨W.heap.size+1,0,none⟩) 2 2] 44 (0,0))
 ra:∀c,c<4→WF.cell? ⟨W.heap.size+1,c,none⟩=some (a c)
 rb:∀c,c<4→WF.cell? ⟨W.heap.size+1,4+c,none⟩=some (b c)
theorem LI{W:World}{g3:Nat}{x0 x1 x2 x3:Value}(h:W.heap[g3]?=some (.cells #[x0,x1,x2,x3] 44 (0,0)))(v0 v1 v2 a0 a1 a2 a3 b0 b1 b2 b3:Value):Put2 W (mV W g3 v0 v1 v2 a0 a1 a2 a3 b0 b1 b2 b3) g3 v0 v1 v2 (nv a0 a1 a2 a3) (nv b0 b1 b2 b3):=by
 have hlt:g3<W.heap.size:=by
  rcases Nat.lt_or_ge g3 W.heap.size with h2|h2
  ·exact h2
  ·rw[Array.getElem?_eq_none h2] at h;cases h
 obtain⟨W1,hW1⟩:∃W1,W1=(((W.setCell ⟨g3,0,none⟩ v0).setCell ⟨g3,1,none⟩ v1).setCell ⟨g3,2,none⟩ v2).setCell ⟨g3,3,none⟩ (.slice (some ⟨W.heap.size+1,0,none⟩) 2 2):=⟨_,rfl⟩
 have hs1:W1.heap.size=W.heap.size:=by rw[hW1];exact lJ _ _ _ _
 obtain⟨WF,hWF⟩:∃WF,WF=(W1.alloc (.cells #[b0,b1,b2,b3] 44)).alloc (.cells #[a0,a1,a2,a3,b0,b1,b2,b3] 44):=⟨_,rfl⟩
 have hb:=tI W1 (.cells #[b0,b1,b2,b3] 44) (.cells #[a0,a1,a2,a3,b0,b1,b2,b3] 44)
 rw[←hWF] at hb
 have hrow:WF.heap[W.heap.size+1]?=some (.cells #[a0,a1,a2,a3,b0,b1,b2,b3] 44 (0,0)):=by
  have h1:=heap_alloc_new (W1.alloc (.cells #[b0,b1,b2,b3] 44)) (.cells #[a0,a1,a2,a3,b0,b1,b2,b3] 44)
  rw[←hWF] at h1
  have h2:(W1.alloc (.cells #[b0,b1,b2,b3] 44)).heap.size=W.heap.size+1:=by simp[hs1]
  rw[h2] at h1
  exact h1
 have e:mV W g3 v0 v1 v2 a0 a1 a2 a3 b0 b1 b2 b3=WF:=by unfold mV;rw[hWF,hW1]
 rw[e]
 refine⟨hb.os.trans (by rw[hW1];rfl),hb.tape.trans (by rw[hW1];rfl),hb.output.trans (by rw[hW1];rfl),by rw[hWF];simp[hs1],fun q hq hg=>?_,?_,fun c hc=>?_,fun c hc=>?_⟩
 ·rw[hb.block q (by omega),hW1]
  exact pG _ _ _ _ hg
 ·rw[hb.block g3 (by omega),hW1]
  exact QE h _ _ _ _
 ·unfold World.cell?
  rw[hrow]
  rcases (show c=0∨c=1∨c=2∨c=3 by omega) with rfl|rfl|rfl|rfl<;>rfl
 ·unfold World.cell?
  rw[hrow]
  rcases (show c=0∨c=1∨c=2∨c=3 by omega) with rfl|rfl|rfl|rfl<;>rfl
theorem Put2.ps{L:List Tok}{bp tb cp:Nat}{W WF:World}{g3:Nat}{v0 v1 v2:Value}{a b:Nat→Value}(h:Put2 W WF g3 v0 v1 v2 a b){k:Nat}{n:Int}{cd ps:Nat}(hp:PS L bp tb cp W k n cd ps)(hg:g3≠bp)(ht:g3≠tb):PS L bp tb cp WF k n cd ps:=
 ⟨(h.old bp hp.in (fun e=>hg e.symm)).trans hp.blk,fun i t e q hq=>(World.cell?_of_block (a:=⟨tb,i * 4+q,none⟩) (h.old tb hp.tin (fun e=>ht e.symm))).trans (hp.tok i t e q hq),hp.ne,hp.lt,hp.len,hp.bc⟩
theorem VN{L:List Tok}{bp tb cp:Nat}{w wr W4 W5 WF:World}{R:PR Nd}{lp:Nat→Nd→Nat→Nat→PR Nd}{F g3 f':Nat}{x:Nd}{a b:Nat→Value}{kd:ByteArray}{r2:PR Nd}(hbp:bp<w.heap.size)(htb:tb<w.heap.size)(h3:w.heap.size<g3)(h4:g3<wr.heap.size)
 (hB:BelX w.heap.size bp w wr) (h4B:BelX wr.heap.size bp wr W4) (h5B:BelX W4.heap.size bp W4 W5)
 (hq:wr.heap[w.heap.size]?=some (.cells #[.string ⟨#[]⟩,.string ⟨#[]⟩,.int .i64 0,.slice none 0 0] 44 (0,0)))
 (hx:NL wr (fun q=>w.heap.size<q∧q≠g3) a x) (h5:PSt L bp tb cp W5 r2 (fun m=>NL W5 (fun q=>W4.heap.size≤q) b m))
 (hp:Put2 W5 WF g3 (.string kd) (.string ⟨#[]⟩) (.int .i64 0) a b) (hF:f'≤F) (hn:r2≠.out) (hR:(r2.bind fun m k n=>lp f' (.mk kd ⟨#[]⟩ 0 [x,m]) k n)=R):LoopAt L bp tb cp w R lp F g3 f' WF:=by
 have hs4:=h4B.size
 have hs5:=h5B.size
 have hsF:=hp.size
 have hold:∀q,q<wr.heap.size→q≠bp→q≠g3→WF.heap[q]?=wr.heap[q]?:=fun q h1 h2 h6=>by
  rw[hp.old q (by omega) h6,h5B.block q (by omega) h2,h4B.block q h1 h2]
 refine .mk f' (r2.bind fun m k n=>.ok (.mk kd ⟨#[]⟩ 0 [x,m]) k n) kd ⟨#[]⟩ 0 (some ⟨W5.heap.size+1,0,none⟩) 2 2 (nR _) hF ?_ ?_ ?_ hp.var ((hold _ (by omega) (by omega) (by omega)).trans hq) ?_ h3 (by omega)
 ·cases r2 with
  |out=>exact trivial
  |bad c a=>
   obtain⟨hc,k,n,h⟩:=h5
   exact⟨hc,k,n,hp.ps h (by omega) (by omega)⟩
  |ok m k n=>
   refine⟨⟨hp.ps h5.1.s (by omega) (by omega),h5.1.nb,h5.1.nd⟩,?_⟩
   refine NL.two (a:=a) (b:=b) (hx.step fun q hq' hP=>⟨hold q hq' (by omega) hP.2,hP⟩) (h5.2.step fun q hq' hP=>⟨hp.old q hq' (by omega),by omega,by omega⟩) ⟨by omega,by omega⟩ hp.ra hp.rb kd ⟨#[]⟩ 0
 ·cases r2 with
  |out=>exact absurd rfl hn
  |bad c a=>intro h;cases h
  |ok m k n=>intro h;cases h
 ·rw[←hR]
  cases r2<;>rfl
 ·refine⟨hp.os.trans (h5B.os.trans (h4B.os.trans hB.os)),hp.tape.trans (h5B.tape.trans (h4B.tape.trans hB.tape)),hp.output.trans (h5B.output.trans (h4B.output.trans hB.output)),by have:=hB.size;omega,fun q hq' hne=>?_⟩
  rw[hold q (by have:=hB.size;omega) hne (by omega)]
  exact hB.block q hq' hne
theorem gI{L:List Tok}{bp tb cp:Nat}{w wr W4:World}{R:PR Nd}{g3 k1 n1:Nat}{x:Nd}{a:Nat→Value}{t:PR Bool}(hs:PSt L bp tb cp wr (.ok x k1 n1) (fun y=>NL wr (fun q=>w.heap.size<q∧q≠g3) a y))(hP:PSt L bp tb cp W4 t (fun y=>y=false))(hR:R=t.bind fun _ k n=>.ok x k n)(hbp:bp<w.heap.size)(hB:BelX wr.heap.size bp wr W4):
 PSt L bp tb cp W4 R (fun y=>NL W4 (fun q=>w.heap.size<q∧q≠g3) a y):=by
 subst hR
 cases t with
 |out=>exact trivial
 |bad c a=>exact hP
 |ok y k n=>exact⟨hP.1,hs.2.step fun q hq hp=>⟨hB.block q hq (by omega),hp⟩⟩
end Go.Proofs.YtehbinobohjadaaGreatDoor
namespace Go.Proofs.YtehbinobohjadaaGreatDoor
open Go.RowKit
theorem xW(b j:Nat):(⟨b,0,none⟩:Addr).add j=⟨b,j,none⟩:=by cases j<;>simp[Addr.add]
theorem EU(b o j:Nat):(⟨b,o,none⟩:Addr).add j=⟨b,o+j,none⟩:=by cases j<;>simp[Addr.add]
theorem OH{w w':World}{b o:Nat}{cs:List Value}(h:w.rangeAt b o cs)(hb:w'.heap[b]?=w.heap[b]?):w'.rangeAt b o cs:=fun j v hv=>(World.cell?_of_block (a:=⟨b,o+j,none⟩) hb).trans (h j v hv)
theorem sE(W:World)(cs:List Value)(T:Nat):(W.alloc (.cells cs.toArray T)).rangeAt W.heap.size 0 cs:=fun j u h=>by
 rw[Nat.zero_add,cell_of_row _ _ j cs.toArray T (0,0) (Go.Deep.blk_alloc_new W _)]
 simpa using h
structure Enc(α:Type) where
 f:α→List Value
 k:Nat
 pos:0<k
 len:∀x,(f x).length=k
 one:∀x u,u∈f x→u.oneCell'=true
section
variable {α:Type} (E:Enc α)
def Enc.all(l:List α):List Value:=l.flatMap E.f
theorem Enc.all_nil:E.all []=[]:=rfl
theorem Enc.all_cons(x:α)(l:List α):E.all (x::l)=E.f x++E.all l:=rfl
theorem Enc.all_app(a b:List α):E.all (a++b)=E.all a++E.all b:=by unfold Enc.all;rw[List.flatMap_append]
theorem Enc.all_len:∀l:List α,(E.all l).length=l.length * E.k
 | []=>by simp[Enc.all]
 |x::l=>by rw[E.all_cons,List.length_append,E.len,Enc.all_len l,List.length_cons,Nat.succ_mul];omega
theorem Enc.all_get:∀(l:List α) (i:Nat) (x:α),l[i]?=some x→∀c u,(E.f x)[c]?=some u→(E.all l)[i * E.k+c]?=some u
 |y::l,0,x,h,c,u,hu=>by
  obtain rfl:y=x:=by simpa using h
  have hc:=(List.getElem?_eq_some_iff.1 hu).1
  rw[Nat.zero_mul,Nat.zero_add,E.all_cons,List.getElem?_append_left hc]
  exact hu
 |y::l,i+1,x,h,c,u,hu=>by
  have h1:=Enc.all_get l i x (by simpa using h) c u hu
  rw[E.all_cons,List.getElem?_append_right (by rw[E.len,Nat.succ_mul];omega),E.len,show (i+1) * E.k+c - E.k=i * E.k+c by rw[Nat.succ_mul];omega]
  exact h1
theorem Enc.all_one(l:List α)(u:Value)(h:u∈E.all l):u.oneCell'=true:=by
 obtain⟨x,_,hx⟩:=List.mem_flatMap.1 h
 exact E.one x u hx
end
structure RowG{α:Type}(E:Enc α)(T:Nat)(w:World)(B:Nat)(v:Value)(l:List α):Prop where
 row:w.ownsRow B T E.k v l.length (E.all l)
 len:l.length≤100000000
def RdG{α:Type}(E:Enc α)(w:World)(B:Nat)(v:Value)(l:List α):Prop:=
 ∃a c,v=.slice a l.length c∧l.length≤17592186044416∧∀j x,l[j]?=some x→∃g o,a=some ⟨g,o,none⟩∧g<B∧w.rangeAt g (o+j * E.k) (E.f x)
section
variable {α:Type} {E:Enc α} {T:Nat}
theorem RowG.nil(w:World)(B:Nat):RowG E T w B (.slice none 0 0) []:=⟨World.ownsRow_nil w B _ _,by simp⟩
theorem RowG.any{w:World}{B:Nat}{v:Value}{l:List α}(h:RowG E T w B v l):∃a c,v=.slice a l.length c:=by
 rcases h.row.2 with ⟨rfl,e⟩|⟨g,cap,cur,rfl,_⟩
 ·exact⟨_,_,by rw[e]⟩
 ·exact⟨_,_,rfl⟩
theorem RowG.any3{w:World}{B:Nat}{v:Value}{l:List α}(h:RowG E T w B v l):∃a m c,v=.slice a m c∧m=l.length:=by
 obtain⟨a,c,e⟩:=h.any
 exact⟨a,_,c,e,rfl⟩
theorem RowG.blk{w:World}{B:Nat}{v:Value}{l:List α}(h:RowG E T w B v l){g:Nat}(hg:v.ownBlock=some g):B≤g∧g<w.heap.size:=by
 rcases h.row.2 with ⟨rfl,e⟩|⟨g',cap,cur,rfl,hb,hgg,_⟩
 ·cases hg
 ·injection hg with hg
  subst hg
  exact⟨hb,(Array.getElem?_eq_some_iff.1 hgg).1⟩
theorem RowG.on{w w':World}{B:Nat}{v:Value}{l:List α}(h:RowG E T w B v l)(hk:∀g,v.ownBlock=some g→B≤g→g<w.heap.size→w'.heap[g]?=w.heap[g]?):RowG E T w' B v l:=by
 refine⟨⟨h.row.1,?_⟩,h.len⟩
 rcases h.row.2 with hn|⟨g,cap,cur,rfl,hb,hgg,rest⟩
 ·exact .inl hn
 ·exact .inr ⟨g,cap,cur,rfl,hb,(hk g rfl hb (Array.getElem?_eq_some_iff.1 hgg).1).trans hgg,rest⟩
theorem RowG.below{w w':World}{B:Nat}{v:Value}{l:List α}(h:RowG E T w B v l)(hb:Below w.heap.size w w'):RowG E T w' B v l:=h.on fun g _ _ hl=>hb.block g hl
theorem RdG.on{w w':World}{B:Nat}{v:Value}{l:List α}(h:RdG E w B v l)(hb:∀k,k<B→w'.heap[k]?=w.heap[k]?):RdG E w' B v l:=by
 obtain⟨a,c,e,hl,hx⟩:=h
 refine⟨a,c,e,hl,fun j x hj=>?_⟩
 obtain⟨g,o,h1,h2,h3⟩:=hx j x hj
 exact⟨g,o,h1,h2,OH h3 (hb g h2)⟩
theorem RdG.below{w w':World}{B:Nat}{v:Value}{l:List α}(h:RdG E w B v l)(hb:Below B w w'):RdG E w' B v l:=h.on hb.block
theorem RdG.at{w:World}{B n c:Nat}{a:Option Addr}{l:List α}(h:RdG E w B (.slice a n c) l){j:Nat}{x:α}(hj:l[j]?=some x):∃g o,a=some ⟨g,o,none⟩∧g<B∧w.rangeAt g (o+j * E.k) (E.f x):=by
 obtain⟨a',c',e,_,hx⟩:=h
 injection e with e1 _ _
 subst e1
 exact hx j x hj
theorem RdG.len{w:World}{B n c:Nat}{a:Option Addr}{l:List α}(h:RdG E w B (.slice a n c) l):n=l.length∧n≤17592186044416:=by
 obtain⟨a',c',e,hl,hx⟩:=h
 injection e with _ e2 _
 exact⟨e2,by omega⟩
theorem RowG.cells{w:World}{B:Nat}{v:Value}{l:List α}(h:RowG E T w B v l){g n cap:Nat}(hv:v=.slice (some ⟨g,0,none⟩) n cap):∀j u,(E.all l)[j]?=some u→w.cell? ⟨g,j,none⟩=some u:=fun j u hu=>by
 have h0:=h.row
 obtain⟨a,c,e⟩:=h.any
 rw[hv] at e
 injection e with e1 e2 e3
 subst e2 hv
 have:=World.ownsRow.cells h0 (g:=g) rfl j u hu
 rwa [xW] at this
theorem RowG.rd{w:World}{B:Nat}{v:Value}{l:List α}(h:RowG E T w B v l):RdG E w w.heap.size v l:=by
 have hlen:=h.len
 rcases h.row.2 with ⟨rfl,e⟩|⟨g,cap,cur,hv,_,hgg,_⟩
 ·exact⟨.none,0,by rw[e],by omega,fun j x hx=>by rw[List.eq_nil_of_length_eq_zero e] at hx;simp at hx⟩
 ·refine⟨some ⟨g,0,.none⟩,cap,hv,by omega,fun j x hx=>⟨g,0,rfl,(Array.getElem?_eq_some_iff.1 hgg).1,fun c u hu=>?_⟩⟩
  rw[Nat.zero_add]
  exact h.cells hv _ _ (E.all_get l j x hx c u hu)
theorem yF{S bytes:Nat}(hI:∃i z,Tryz.prog.info? T=some i∧i.zero=some z∧i.size=E.k∧i.bytes=bytes∧z.cells.size=E.k)(hby:bytes≤200)(hU:Tryz.prog.underlying S=some (.slice T)){W:World}{ops:Array Oper}{rest:List Oper}{o:Oper}{a:Act}{Q:Exit→Act→World→Prop}(hgd:o.guard=.none)(s x:Operand)
 (ho:o.op=.call {callee:=.builtin .append,args:=#[s,x],argTypes:=#[S,S]}) (B:Nat) (v:Value) (l:List α) (y:α) (cs:Array Value) (hcs:cs=(E.f y).toArray) (hs:a.eval s=v) (hown:RowG E T W B v l)
 (hx:a.eval x=.slice (some ⟨W.heap.size,0,.none⟩) 1 1) (hB:B≤W.heap.size) (hl:l.length+1≤1000000)
 (h:∀v' w',RowG E T w' B v' (l++[y])→Below B W w'→(∀k,v.ownBlock≠some k→k<W.heap.size→w'.heap[k]?=W.heap[k]?)→(∀k,v'.ownBlock=some k→v.ownBlock=some k∨W.heap.size≤k)→wpList Tryz.prog ops Q rest (a.put o.dst v') w'):wpList Tryz.prog ops Q (o::rest) a (W.alloc (.cells cs T)):=by
 obtain⟨i0,z,h1,h2,h3,h4,h5⟩:=hI
 subst hcs
 have hn:∀(j:Nat) (u:Value),(E.f y)[j]?=some u→(W.alloc (.cells (E.f y).toArray T)).cell? ((⟨W.heap.size,0,.none⟩:Addr).add j)=some u:=fun j u hj=>by
  have:=sE W (E.f y) T j u hj
  rw[EU]
  exact this
 have hal:=(hown.below ((Below.refl _ _).alloc (nR _) (.cells (E.f y).toArray T)))
 refine wpList_append_own_at _ hgd s x S ho B T i0 z E.k bytes hU h1 h2 h3 h4 h5 E.pos v l.length (E.all l) hs hal.row ⟨W.heap.size,0,.none⟩ 1 1 (E.f y) hx (by rw[E.len,Nat.one_mul]) hn (E.one y) (by unfold maxLen;omega) (by have h6:(l.length+1) * bytes≤1000000 * 200:=Nat.mul_le_mul hl hby;omega) (by simp;omega) ?_
 intro v' w' hown' hgrow _ hblk
 refine h v' w' ⟨?_,by rw[List.length_append];simp only[List.length_cons,List.length_nil];omega⟩ (((Below.refl B W).alloc hB _).grown hgrow (by simp;omega) (fun k hk=>(hown.row.lt k hk).1)) (fun k hk hlt=>?_) (fun k hk=>?_)
 ·rw[List.length_append,E.all_app,show E.all [y]=E.f y by rw[E.all_cons,E.all_nil,List.append_nil]]
  exact hown'
 ·rw[hgrow.block k (by simp;omega) (fun e=>hk e.symm),Go.Deep.blk_alloc_lt _ _ _ hlt]
 ·rcases hblk with e|e
  ·exact .inl (e▸hk)
  ·rw[hk] at e
   injection e with e
   exact .inr (by simp at e;omega)
end
def RdS{α:Type}(E:Enc α)(w:World)(S:Nat→Prop)(v:Value)(l:List α):Prop:=
 ∃a c,v=.slice a l.length c∧l.length≤17592186044416∧∀j x,l[j]?=some x→∃g o,a=some ⟨g,o,none⟩∧S g∧w.rangeAt g (o+j * E.k) (E.f x)
section
variable {α:Type} {E:Enc α} {T:Nat}
theorem RdS.on{w w':World}{S S':Nat→Prop}{v:Value}{l:List α}(h:RdS E w S v l)(hb:∀k,S k→S' k∧w'.heap[k]?=w.heap[k]?):RdS E w' S' v l:=by
 obtain⟨a,c,e,hl,hx⟩:=h
 refine⟨a,c,e,hl,fun j x hj=>?_⟩
 obtain⟨g,o,h1,h2,h3⟩:=hx j x hj
 exact⟨g,o,h1,(hb g h2).1,OH h3 (hb g h2).2⟩
theorem RdS.mono{w:World}{S S':Nat→Prop}{v:Value}{l:List α}(h:RdS E w S v l)(hS:∀k,S k→S' k):RdS E w S' v l:=h.on fun k hk=>⟨hS k hk,rfl⟩
theorem RdS.nil0(w:World)(S:Nat→Prop)(c:Nat)(a:Option Addr):RdS E w S (.slice a 0 c) []:=⟨a,c,rfl,by simp,fun j x h=>by simp at h⟩
theorem RdS.at{w:World}{S:Nat→Prop}{n c:Nat}{a:Option Addr}{l:List α}(h:RdS E w S (.slice a n c) l){j:Nat}{x:α}(hj:l[j]?=some x):∃g o,a=some ⟨g,o,none⟩∧S g∧w.rangeAt g (o+j * E.k) (E.f x):=by
 obtain⟨a',c',e,_,hx⟩:=h
 injection e with e1 _ _
 subst e1
 exact hx j x hj
theorem RdS.len{w:World}{S:Nat→Prop}{n c:Nat}{a:Option Addr}{l:List α}(h:RdS E w S (.slice a n c) l):n=l.length∧n≤17592186044416:=by
 obtain⟨a',c',e,hl,hx⟩:=h
 injection e with _ e2 _
 exact⟨e2,by omega⟩
theorem RowG.rdS{w:World}{B:Nat}{v:Value}{l:List α}(h:RowG E T w B v l):RdS E w (fun k=>B≤k∧k<w.heap.size∧v.ownBlock=some k) v l:=by
 obtain⟨a,c,e,hl,hx⟩:=h.rd
 refine⟨a,c,e,hl,fun j x hj=>?_⟩
 obtain⟨g,o,h1,h2,h3⟩:=hx j x hj
 have ho:v.ownBlock=some g:=by
  rw[e,h1]
  rfl
 exact⟨g,o,h1,⟨(h.blk ho).1,h2,ho⟩,h3⟩
end
structure SlV where
 a:Option Addr
 n:Nat
 c:Nat
structure Nest(X Y:Type) where
 E:Enc (X×SlV)
 F:Enc Y
 sub:X→List Y
section
variable {X Y:Type} {N:Nest X Y} {T:Nat} {K:Nat→Prop}
end
theorem XL{α:Type}{E:Enc α}{T S bytes:Nat}(hI:∃i z,Tryz.prog.info? T=some i∧i.zero=some z∧i.size=E.k∧i.bytes=bytes∧z.cells.size=E.k)(hby:bytes≤200)(hU:Tryz.prog.underlying S=some (.slice T)){W:World}{ops:Array Oper}{o:Oper}{a:Act}{K:Act→World→Prop}{Q:Exit→Act→World→Prop}{F:Prop}(hgd:o.guard=none)(s x:Operand)
 (ho:o.op=.call {callee:=.builtin .append,args:=#[s,x],argTypes:=#[S,S]}) (B:Nat) (v:Value) (l:List α) (y:α) (cs:Array Value) (hcs:cs=(E.f y).toArray) (hs:a.eval s=v) (hown:RowG E T W B v l)
 (hx:a.eval x=.slice (some ⟨W.heap.size,0,none⟩) 1 1) (hB:B≤W.heap.size) (hl:l.length+1≤1000000)
 (h:∀v' w',RowG E T w' B v' (l++[y])→Below B W w'→(∀k,v.ownBlock≠some k→k<W.heap.size→w'.heap[k]?=W.heap[k]?)→(∀k,v'.ownBlock=some k→v.ownBlock=some k∨W.heap.size≤k)→K (a.put o.dst v') w'):
 if Region.wanted o (yielded ops a.tmps)=true then Oper.wp Tryz.prog o a (W.alloc (.cells cs T)) K Q else F:=by
 have hw:Region.wanted o (yielded ops a.tmps)=true:=by simp[Region.wanted,hgd]
 rw[if_pos hw]
 obtain⟨i0,z,h1,h2,h3,h4,h5⟩:=hI
 subst hcs
 have hn:∀(j:Nat) (u:Value),(E.f y)[j]?=some u→(W.alloc (.cells (E.f y).toArray T)).cell? ((⟨W.heap.size,0,none⟩:Addr).add j)=some u:=fun j u hj=>by
  have:=sE W (E.f y) T j u hj
  rw[EU]
  exact this
 have hal:=(hown.below ((Below.refl _ _).alloc (nR _) (.cells (E.f y).toArray T)))
 obtain⟨v',w',hr,hown',hgrow,_,hblk⟩:=run_append_own_at (P:=Tryz.prog) (W.alloc (.cells (E.f y).toArray T)) B S o.type T i0 z E.k bytes hU h1 h2 h3 h4 h5 E.pos v l.length (E.all l) hal.row ⟨W.heap.size,0,none⟩ 1 1 (E.f y) (by rw[E.len,Nat.one_mul]) hn (E.one y) (by unfold maxLen;omega) (by have h6:(l.length+1) * bytes≤1000000 * 200:=Nat.mul_le_mul hl hby;omega) (by simp;omega)
 unfold Oper.wp
 simp[execOp,ho,resolve,invoke,builtin,hs,hx,hr,Result.andThen]
 refine h v' w' ⟨?_,by rw[List.length_append];simp only[List.length_cons,List.length_nil];omega⟩ (((Below.refl B W).alloc hB _).grown hgrow (by simp;omega) (fun k hk=>(hown.row.lt k hk).1)) (fun k hk hlt=>?_) (fun k hk=>?_)
 ·rw[List.length_append,E.all_app,show E.all [y]=E.f y by rw[E.all_cons,E.all_nil,List.append_nil]]
  exact hown'
 ·rw[hgrow.block k (by simp;omega) (fun e=>hk e.symm),Go.Deep.blk_alloc_lt _ _ _ hlt]
 ·rcases hblk with e|e
  ·exact .inl (e▸hk)
  ·rw[hk] at e
   injection e with e
   exact .inr (by simp at e;omega)
end Go.Proofs.YtehbinobohjadaaGreatDoor

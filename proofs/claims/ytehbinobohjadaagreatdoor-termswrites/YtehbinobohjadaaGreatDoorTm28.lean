import Derived.Test.YtehbinobohjadaaGreatDoorTm00
import Derived.Test.YtehbinobohjadaaGreatDoorTm27
set_option maxHeartbeats 20000000
set_option maxRecDepth 20000
namespace Go.Proofs.YtehbinobohjadaaGreatDoor
open Go.RowKit Go.Extern.Stop Go.Stop Go.Extern
set_option linter.unusedSectionVars false
variable [Inhabited TP]
theorem RBx.drew{w:World}{bs bi be:Nat}{cs:Array Value}{b:Bool}{ev:Value}(h:RBx w bs bi be cs b ev):RBx w.drew bs bi be cs b ev:=⟨h.s,h.i,h.e,h.z⟩
theorem Fr3.drew{bs bi be:Nat}{w w':World}(h:Fr3 bs bi be w w'):Fr3 bs bi be w w'.drew:=⟨h.os,h.tape,h.output,h.size,h.block⟩
theorem Fr3.refl(bs bi be:Nat)(w:World):Fr3 bs bi be w w:=⟨rfl,rfl,rfl,nR _,fun _ _ _ _ _=>rfl⟩
theorem IF{o:Oper}{a:Act}{w:World}{K:Act→World→Prop}{Q:Exit→Act→World→Prop}(ho:o.op=.build 30 #[])(h:K (a.put o.dst (.agg zS)) w):o.wp Tryz.prog a w K Q:=by
 have hp:((#[]:Array (Nat×Operand)).map fun (i,x)=>(i,a.eval x)).toList=[]:=by simp
 exact wp_build 30 #[] ho (by rw[hp,cK];rfl) (by rw[hp,cK];exact h)
def wQ:Oper:={dst:=some 13,op:=Op.build 30 #[],type:=30,pos:= "terms.go:53",after:=#[],guard:=none}
def TS:Oper:={dst:=some 14,op:=Op.load 32 (Operand.global 0),type:=32,pos:= "terms.go:53",after:=#[],guard:=none}
def US:Oper:={dst:=some 15,op:=Op.build 57 #[(0,Operand.const (Value.int IntKind.i64 0)),(1,Operand.tmp 14)],type:=57,pos:= "terms.go:53",after:=#[{on:=1,ground:=Ground.data}],guard:=none}
def XS:Oper:={dst:=some 16,op:=Op.box 57 (Operand.tmp 15),type:=55,pos:= "terms.go:53",after:=#[{on:=2,ground:=Ground.data}],guard:=none}
def YS:Oper:={dst:=some 17,op:=Op.makeInterface 55 (Operand.tmp 16),type:=32,pos:= "terms.go:53",after:=#[{on:=3,ground:=Ground.data}],guard:=none}
def xQ:Oper:={dst:=none,op:=Op.store 30 (Operand.tmp 2) (Operand.tmp 13),type:=0,pos:= "terms.go:53",after:=#[{on:=0,ground:=Ground.data},{on:=0,ground:=Ground.phase},{on:=1,ground:=Ground.textOnly Departure.lateStoresUnsure},{on:=2,ground:=Ground.textOnly Departure.lateStoresUnsure},{on:=3,ground:=Ground.textOnly Departure.lateStoresUnsure},{on:=4,ground:=Ground.textOnly Departure.lateStoresUnsure}],guard:=none}
def yQ:Oper:={dst:=none,op:=Op.store 4 (Operand.tmp 3) (Operand.const (Value.bool true)),type:=0,pos:= "terms.go:53",after:=#[{on:=5,ground:=Ground.chain},{on:=0,ground:=Ground.phase},{on:=1,ground:=Ground.textOnly Departure.lateStoresUnsure},{on:=2,ground:=Ground.textOnly Departure.lateStoresUnsure},{on:=3,ground:=Ground.textOnly Departure.lateStoresUnsure},{on:=4,ground:=Ground.textOnly Departure.lateStoresUnsure},{on:=5,ground:=Ground.phase}],guard:=none}
def AW:Oper:={dst:=none,op:=Op.store 32 (Operand.tmp 4) (Operand.tmp 17),type:=0,pos:= "terms.go:53",after:=#[{on:=4,ground:=Ground.data},{on:=6,ground:=Ground.chain},{on:=0,ground:=Ground.phase},{on:=1,ground:=Ground.phase},{on:=2,ground:=Ground.phase},{on:=3,ground:=Ground.phase},{on:=4,ground:=Ground.phase},{on:=5,ground:=Ground.phase},{on:=6,ground:=Ground.phase}],guard:=none}
def BF:Array Oper:=#[wQ,TS,US,XS,YS,xQ,yQ,AW]
abbrev a4(s:ByteArray)(bs bi be:Nat)(ds:List Deferred)(v13 v14 v15 v16 v17:Value):Act:={tmps:=#[.string s,undef,.pointer (some ⟨bs,0,none⟩),.pointer (some ⟨bi,0,none⟩),.pointer (some ⟨be,0,none⟩),undef,.string s,.bool true,.bool false,undef,.string s,.int .i64 s.size,.bool true,v13,v14,v15,v16,v17,undef,undef,undef,undef,undef],defers:=ds}
structure R4U(V:World)(bs bi be:Nat)(pB:Addr)(b:Bool)(U:World):Prop where
 bx:RBx U bs bi be zS b .nilIface
 fr:Fr3 bs bi be V U
 ce:U.cell? ⟨0,0,none⟩=some (.iface 189 (.pointer (some pB)))
structure R4C(V:World)(bs bi be:Nat):Prop where
 q1:bs≠bi
 q2:bs≠be
 q3:bi≠be
 g:0<V.heap.size
 g1:0≠bs
 g2:0≠bi
theorem R4U.alloc{V:World}{bs bi be:Nat}{pB:Addr}{b:Bool}{U:World}(h:R4U V bs bi be pB b U)(o:Obj):R4U V bs bi be pB b (U.alloc o):=
 have hb:Below U.heap.size U (U.alloc o):=bA _ _
 ⟨h.bx.below hb,h.fr.trans (Fr3.of hb),(hb.cell (p:=⟨0,0,none⟩) (fB h.ce)).trans h.ce⟩
theorem R4U.row{V:World}{bs bi be:Nat}{pB:Addr}{b:Bool}{U:World}(C:R4C V bs bi be)(h:R4U V bs bi be pB b U):R4U V bs bi be pB b (U.setRow bs zS):=
 ⟨h.bx.setRow C.q1 C.q2,h.fr.setRow zS,(World.cell?_of_block (a:=⟨0,0,none⟩) (AA C.g1)).trans h.ce⟩
theorem R4U.flag{V:World}{bs bi be:Nat}{pB:Addr}{b:Bool}{U:World}(C:R4C V bs bi be)(h:R4U V bs bi be pB b U):R4U V bs bi be pB true (U.setCell ⟨bi,0,none⟩ (.bool true)):=
 ⟨h.bx.setI C.q1 C.q3 true,h.fr.set (.inl rfl) _,(World.cell?_of_block (a:=⟨0,0,none⟩) (Below.heap_setCell _ _ _ _ C.g2)).trans h.ce⟩
section
variable {Q:Exit→Act→World→Prop} {V:World} {bs bi be:Nat} {s:ByteArray} {pB:Addr} {ds:List Deferred}
def H4(Q:Exit→Act→World→Prop)(V:World)(bs bi be:Nat)(s:ByteArray)(pB:Addr)(ds:List Deferred):Prop:=∀(U:World) (pa:Addr),RBx U bs bi be zS true (.iface 55 (.pointer (some pa)))→Fr3 bs bi be V U→Q .normal (a4 s bs bi be ds (.agg zS) (.iface 189 (.pointer (some pB))) (.agg #[.int .i64 0,(.iface 189 (.pointer (some pB)))]) (.pointer (some pa)) (.iface 55 (.pointer (some pa)))) U
theorem uR(C:R4C V bs bi be)(HQ:H4 Q V bs bi be s pB ds)(pa:Addr)(U:World)(h:R4U V bs bi be pB true U):wpAny Tryz.prog .any BF Q 1 #[true,true,true,true,true,true,true,false] (a4 s bs bi be ds (.agg zS) (.iface 189 (.pointer (some pB))) (.agg #[.int .i64 0,(.iface 189 (.pointer (some pB)))]) (.pointer (some pa)) (.iface 55 (.pointer (some pa)))) U:=by
 obtain⟨ce,fe⟩:=h.bx.cell_e
 refine wpAny_ready (rs:=[7]) (by kernel_rfl) (by simp) ?_
 refine AllReady.cons (o:=AW) rfl (fun K hK=>?_) AllReady.nil
 have HK:Hid (K (a4 s bs bi be ds (.agg zS) (.iface 189 (.pointer (some pB))) (.agg #[.int .i64 0,(.iface 189 (.pointer (some pB)))]) (.pointer (some pa)) (.iface 55 (.pointer (some pa)))) (U.setCell ⟨be,0,none⟩ (.iface 55 (.pointer (some pa))))):=hK _ _ (wpAny_done (by kernel_rfl) (HQ _ pa (h.bx.setE C.q2 C.q3 _) (h.fr.set (.inr rfl) _)) _)
 clear hK
 unfold AW a4
 go_simp
 exact HK.out
theorem qU(C:R4C V bs bi be)(HQ:H4 Q V bs bi be s pB ds)(pa:Addr)(U:World)(h:R4U V bs bi be pB false U):wpAny Tryz.prog .any BF Q 2 #[true,true,true,true,true,true,false,false] (a4 s bs bi be ds (.agg zS) (.iface 189 (.pointer (some pB))) (.agg #[.int .i64 0,(.iface 189 (.pointer (some pB)))]) (.pointer (some pa)) (.iface 55 (.pointer (some pa)))) U:=by
 have ce:=h.ce
 refine wpAny_ready (rs:=[6]) (by kernel_rfl) (by simp) ?_
 refine AllReady.cons (o:=yQ) rfl (fun K hK=>?_) AllReady.nil
 have HK:Hid (K (a4 s bs bi be ds (.agg zS) (.iface 189 (.pointer (some pB))) (.agg #[.int .i64 0,(.iface 189 (.pointer (some pB)))]) (.pointer (some pa)) (.iface 55 (.pointer (some pa)))) (U.setCell ⟨bi,0,none⟩ (.bool true))):=hK _ _ (uR C HQ pa _ (h.flag C))
 clear hK
 obtain⟨ci,fi⟩:=h.bx.cell_i
 unfold yQ a4
 go_simp
 exact HK.out
theorem oU(C:R4C V bs bi be)(HQ:H4 Q V bs bi be s pB ds)(pa:Addr)(U:World)(h:R4U V bs bi be pB true U):wpAny Tryz.prog .any BF Q 2 #[true,true,true,true,false,true,true,false] (a4 s bs bi be ds (.agg zS) (.iface 189 (.pointer (some pB))) (.agg #[.int .i64 0,(.iface 189 (.pointer (some pB)))]) (.pointer (some pa)) undef) U:=by
 have ce:=h.ce
 refine wpAny_ready (rs:=[4]) (by kernel_rfl) (by simp) ?_
 refine AllReady.cons (o:=YS) rfl (fun K hK=>?_) AllReady.nil
 have HK:Hid (K (a4 s bs bi be ds (.agg zS) (.iface 189 (.pointer (some pB))) (.agg #[.int .i64 0,(.iface 189 (.pointer (some pB)))]) (.pointer (some pa)) (.iface 55 (.pointer (some pa)))) U):=hK _ _ (uR C HQ pa _ h)
 clear hK
 unfold YS a4
 go_simp
 exact HK.out
theorem pU(C:R4C V bs bi be)(HQ:H4 Q V bs bi be s pB ds)(pa:Addr)(U:World)(h:R4U V bs bi be pB false U):wpAny Tryz.prog .any BF Q 3 #[true,true,true,true,true,false,false,false] (a4 s bs bi be ds (.agg zS) (.iface 189 (.pointer (some pB))) (.agg #[.int .i64 0,(.iface 189 (.pointer (some pB)))]) (.pointer (some pa)) (.iface 55 (.pointer (some pa)))) U:=by
 have ce:=h.ce
 refine wpAny_ready (rs:=[5]) (by kernel_rfl) (by simp) ?_
 refine AllReady.cons (o:=xQ) rfl (fun K hK=>?_) AllReady.nil
 have HK:Hid (K (a4 s bs bi be ds (.agg zS) (.iface 189 (.pointer (some pB))) (.agg #[.int .i64 0,(.iface 189 (.pointer (some pB)))]) (.pointer (some pa)) (.iface 55 (.pointer (some pa)))) (U.setRow bs zS)):=hK _ _ (qU C HQ pa _ (h.row C))
 clear hK
 rw[if_pos (by simp[Region.wanted,xQ])]
 exact wp_store_row 30 (.tmp 2) (.tmp 13) rfl bs zS (by simp[Act.eval]) (by simp[Act.eval]) 30 zS h.bx.s (infoSent.trans (by rw[GD])) rfl yG HK.out
theorem nU(C:R4C V bs bi be)(HQ:H4 Q V bs bi be s pB ds)(pa:Addr)(U:World)(h:R4U V bs bi be pB false U):wpAny Tryz.prog .any BF Q 3 #[true,true,true,true,false,true,false,false] (a4 s bs bi be ds (.agg zS) (.iface 189 (.pointer (some pB))) (.agg #[.int .i64 0,(.iface 189 (.pointer (some pB)))]) (.pointer (some pa)) undef) U:=by
 have ce:=h.ce
 refine wpAny_ready (rs:=[4,6]) (by kernel_rfl) (by simp) ?_
 refine AllReady.cons (o:=YS) rfl (fun K hK=>?_) ?_
 ·have HK:Hid (K (a4 s bs bi be ds (.agg zS) (.iface 189 (.pointer (some pB))) (.agg #[.int .i64 0,(.iface 189 (.pointer (some pB)))]) (.pointer (some pa)) (.iface 55 (.pointer (some pa)))) U):=hK _ _ (qU C HQ pa _ h)
  clear hK
  unfold YS a4
  go_simp
  exact HK.out
 refine AllReady.cons (o:=yQ) rfl (fun K hK=>?_) AllReady.nil
 have HK:Hid (K (a4 s bs bi be ds (.agg zS) (.iface 189 (.pointer (some pB))) (.agg #[.int .i64 0,(.iface 189 (.pointer (some pB)))]) (.pointer (some pa)) undef) (U.setCell ⟨bi,0,none⟩ (.bool true))):=hK _ _ (oU C HQ pa _ (h.flag C))
 clear hK
 obtain⟨ci,fi⟩:=h.bx.cell_i
 unfold yQ a4
 go_simp
 exact HK.out
theorem lU(C:R4C V bs bi be)(HQ:H4 Q V bs bi be s pB ds)(_:Addr)(U:World)(h:R4U V bs bi be pB true U):wpAny Tryz.prog .any BF Q 3 #[true,true,true,false,false,true,true,false] (a4 s bs bi be ds (.agg zS) (.iface 189 (.pointer (some pB))) (.agg #[.int .i64 0,(.iface 189 (.pointer (some pB)))]) undef undef) U:=by
 have ce:=h.ce
 refine wpAny_ready (rs:=[3]) (by kernel_rfl) (by simp) ?_
 refine AllReady.cons (o:=XS) rfl (fun K hK=>?_) AllReady.nil
 have HK:Hid (K (a4 s bs bi be ds (.agg zS) (.iface 189 (.pointer (some pB))) (.agg #[.int .i64 0,(.iface 189 (.pointer (some pB)))]) (.pointer (some ⟨U.heap.size,0,none⟩)) undef) (U.alloc (.cells #[.int .i64 0,(.iface 189 (.pointer (some pB)))] 57))):=hK _ _ (oU C HQ ⟨U.heap.size,0,none⟩ _ (h.alloc _))
 clear hK
 unfold XS a4
 go_simp
 exact HK.out
theorem nW(C:R4C V bs bi be)(HQ:H4 Q V bs bi be s pB ds)(pa:Addr)(U:World)(h:R4U V bs bi be pB false U):wpAny Tryz.prog .any BF Q 4 #[false,true,true,true,true,false,false,false] (a4 s bs bi be ds undef (.iface 189 (.pointer (some pB))) (.agg #[.int .i64 0,(.iface 189 (.pointer (some pB)))]) (.pointer (some pa)) (.iface 55 (.pointer (some pa)))) U:=by
 have ce:=h.ce
 refine wpAny_ready (rs:=[0]) (by kernel_rfl) (by simp) ?_
 refine AllReady.cons (o:=wQ) rfl (fun K hK=>?_) AllReady.nil
 have HK:Hid (K (a4 s bs bi be ds (.agg zS) (.iface 189 (.pointer (some pB))) (.agg #[.int .i64 0,(.iface 189 (.pointer (some pB)))]) (.pointer (some pa)) (.iface 55 (.pointer (some pa)))) U):=hK _ _ (pU C HQ pa _ h)
 clear hK
 rw[if_pos (by simp[Region.wanted,wQ])]
 exact IF rfl HK.out
theorem mU(C:R4C V bs bi be)(HQ:H4 Q V bs bi be s pB ds)(pa:Addr)(U:World)(h:R4U V bs bi be pB false U):wpAny Tryz.prog .any BF Q 4 #[true,true,true,true,false,false,false,false] (a4 s bs bi be ds (.agg zS) (.iface 189 (.pointer (some pB))) (.agg #[.int .i64 0,(.iface 189 (.pointer (some pB)))]) (.pointer (some pa)) undef) U:=by
 have ce:=h.ce
 refine wpAny_ready (rs:=[4,5]) (by kernel_rfl) (by simp) ?_
 refine AllReady.cons (o:=YS) rfl (fun K hK=>?_) ?_
 ·have HK:Hid (K (a4 s bs bi be ds (.agg zS) (.iface 189 (.pointer (some pB))) (.agg #[.int .i64 0,(.iface 189 (.pointer (some pB)))]) (.pointer (some pa)) (.iface 55 (.pointer (some pa)))) U):=hK _ _ (pU C HQ pa _ h)
  clear hK
  unfold YS a4
  go_simp
  exact HK.out
 refine AllReady.cons (o:=xQ) rfl (fun K hK=>?_) AllReady.nil
 have HK:Hid (K (a4 s bs bi be ds (.agg zS) (.iface 189 (.pointer (some pB))) (.agg #[.int .i64 0,(.iface 189 (.pointer (some pB)))]) (.pointer (some pa)) undef) (U.setRow bs zS)):=hK _ _ (nU C HQ pa _ (h.row C))
 clear hK
 rw[if_pos (by simp[Region.wanted,xQ])]
 exact wp_store_row 30 (.tmp 2) (.tmp 13) rfl bs zS (by simp[Act.eval]) (by simp[Act.eval]) 30 zS h.bx.s (infoSent.trans (by rw[GD])) rfl yG HK.out
theorem kU(C:R4C V bs bi be)(HQ:H4 Q V bs bi be s pB ds)(pa:Addr)(U:World)(h:R4U V bs bi be pB false U):wpAny Tryz.prog .any BF Q 4 #[true,true,true,false,false,true,false,false] (a4 s bs bi be ds (.agg zS) (.iface 189 (.pointer (some pB))) (.agg #[.int .i64 0,(.iface 189 (.pointer (some pB)))]) undef undef) U:=by
 have ce:=h.ce
 refine wpAny_ready (rs:=[3,6]) (by kernel_rfl) (by simp) ?_
 refine AllReady.cons (o:=XS) rfl (fun K hK=>?_) ?_
 ·have HK:Hid (K (a4 s bs bi be ds (.agg zS) (.iface 189 (.pointer (some pB))) (.agg #[.int .i64 0,(.iface 189 (.pointer (some pB)))]) (.pointer (some ⟨U.heap.size,0,none⟩)) undef) (U.alloc (.cells #[.int .i64 0,(.iface 189 (.pointer (some pB)))] 57))):=hK _ _ (nU C HQ ⟨U.heap.size,0,none⟩ _ (h.alloc _))
  clear hK
  unfold XS a4
  go_simp
  exact HK.out
 refine AllReady.cons (o:=yQ) rfl (fun K hK=>?_) AllReady.nil
 have HK:Hid (K (a4 s bs bi be ds (.agg zS) (.iface 189 (.pointer (some pB))) (.agg #[.int .i64 0,(.iface 189 (.pointer (some pB)))]) undef undef) (U.setCell ⟨bi,0,none⟩ (.bool true))):=hK _ _ (lU C HQ pa _ (h.flag C))
 clear hK
 obtain⟨ci,fi⟩:=h.bx.cell_i
 unfold yQ a4
 go_simp
 exact HK.out
theorem iU(C:R4C V bs bi be)(HQ:H4 Q V bs bi be s pB ds)(pa:Addr)(U:World)(h:R4U V bs bi be pB true U):wpAny Tryz.prog .any BF Q 4 #[true,true,false,false,false,true,true,false] (a4 s bs bi be ds (.agg zS) (.iface 189 (.pointer (some pB))) undef undef undef) U:=by
 have ce:=h.ce
 refine wpAny_ready (rs:=[2]) (by kernel_rfl) (by simp) ?_
 refine AllReady.cons (o:=US) rfl (fun K hK=>?_) AllReady.nil
 have HK:Hid (K (a4 s bs bi be ds (.agg zS) (.iface 189 (.pointer (some pB))) (.agg #[.int .i64 0,(.iface 189 (.pointer (some pB)))]) undef undef) U):=hK _ _ (lU C HQ pa _ h)
 clear hK
 unfold US a4
 go_simp
 exact HK.out
theorem mW(C:R4C V bs bi be)(HQ:H4 Q V bs bi be s pB ds)(pa:Addr)(U:World)(h:R4U V bs bi be pB false U):wpAny Tryz.prog .any BF Q 5 #[false,true,true,true,false,false,false,false] (a4 s bs bi be ds undef (.iface 189 (.pointer (some pB))) (.agg #[.int .i64 0,(.iface 189 (.pointer (some pB)))]) (.pointer (some pa)) undef) U:=by
 have ce:=h.ce
 refine wpAny_ready (rs:=[0,4]) (by kernel_rfl) (by simp) ?_
 refine AllReady.cons (o:=wQ) rfl (fun K hK=>?_) ?_
 ·have HK:Hid (K (a4 s bs bi be ds (.agg zS) (.iface 189 (.pointer (some pB))) (.agg #[.int .i64 0,(.iface 189 (.pointer (some pB)))]) (.pointer (some pa)) undef) U):=hK _ _ (mU C HQ pa _ h)
  clear hK
  rw[if_pos (by simp[Region.wanted,wQ])]
  exact IF rfl HK.out
 refine AllReady.cons (o:=YS) rfl (fun K hK=>?_) AllReady.nil
 have HK:Hid (K (a4 s bs bi be ds undef (.iface 189 (.pointer (some pB))) (.agg #[.int .i64 0,(.iface 189 (.pointer (some pB)))]) (.pointer (some pa)) (.iface 55 (.pointer (some pa)))) U):=hK _ _ (nW C HQ pa _ h)
 clear hK
 unfold YS a4
 go_simp
 exact HK.out
theorem jU(C:R4C V bs bi be)(HQ:H4 Q V bs bi be s pB ds)(pa:Addr)(U:World)(h:R4U V bs bi be pB false U):wpAny Tryz.prog .any BF Q 5 #[true,true,true,false,false,false,false,false] (a4 s bs bi be ds (.agg zS) (.iface 189 (.pointer (some pB))) (.agg #[.int .i64 0,(.iface 189 (.pointer (some pB)))]) undef undef) U:=by
 have ce:=h.ce
 refine wpAny_ready (rs:=[3,5]) (by kernel_rfl) (by simp) ?_
 refine AllReady.cons (o:=XS) rfl (fun K hK=>?_) ?_
 ·have HK:Hid (K (a4 s bs bi be ds (.agg zS) (.iface 189 (.pointer (some pB))) (.agg #[.int .i64 0,(.iface 189 (.pointer (some pB)))]) (.pointer (some ⟨U.heap.size,0,none⟩)) undef) (U.alloc (.cells #[.int .i64 0,(.iface 189 (.pointer (some pB)))] 57))):=hK _ _ (mU C HQ ⟨U.heap.size,0,none⟩ _ (h.alloc _))
  clear hK
  unfold XS a4
  go_simp
  exact HK.out
 refine AllReady.cons (o:=xQ) rfl (fun K hK=>?_) AllReady.nil
 have HK:Hid (K (a4 s bs bi be ds (.agg zS) (.iface 189 (.pointer (some pB))) (.agg #[.int .i64 0,(.iface 189 (.pointer (some pB)))]) undef undef) (U.setRow bs zS)):=hK _ _ (kU C HQ pa _ (h.row C))
 clear hK
 rw[if_pos (by simp[Region.wanted,xQ])]
 exact wp_store_row 30 (.tmp 2) (.tmp 13) rfl bs zS (by simp[Act.eval]) (by simp[Act.eval]) 30 zS h.bx.s (infoSent.trans (by rw[GD])) rfl yG HK.out
theorem gU(C:R4C V bs bi be)(HQ:H4 Q V bs bi be s pB ds)(pa:Addr)(U:World)(h:R4U V bs bi be pB false U):wpAny Tryz.prog .any BF Q 5 #[true,true,false,false,false,true,false,false] (a4 s bs bi be ds (.agg zS) (.iface 189 (.pointer (some pB))) undef undef undef) U:=by
 have ce:=h.ce
 refine wpAny_ready (rs:=[2,6]) (by kernel_rfl) (by simp) ?_
 refine AllReady.cons (o:=US) rfl (fun K hK=>?_) ?_
 ·have HK:Hid (K (a4 s bs bi be ds (.agg zS) (.iface 189 (.pointer (some pB))) (.agg #[.int .i64 0,(.iface 189 (.pointer (some pB)))]) undef undef) U):=hK _ _ (kU C HQ pa _ h)
  clear hK
  unfold US a4
  go_simp
  exact HK.out
 refine AllReady.cons (o:=yQ) rfl (fun K hK=>?_) AllReady.nil
 have HK:Hid (K (a4 s bs bi be ds (.agg zS) (.iface 189 (.pointer (some pB))) undef undef undef) (U.setCell ⟨bi,0,none⟩ (.bool true))):=hK _ _ (iU C HQ pa _ (h.flag C))
 clear hK
 obtain⟨ci,fi⟩:=h.bx.cell_i
 unfold yQ a4
 go_simp
 exact HK.out
theorem jW(C:R4C V bs bi be)(HQ:H4 Q V bs bi be s pB ds)(pa:Addr)(U:World)(h:R4U V bs bi be pB true U):wpAny Tryz.prog .any BF Q 5 #[true,false,false,false,false,true,true,false] (a4 s bs bi be ds (.agg zS) undef undef undef undef) U:=by
 have ce:=h.ce
 refine wpAny_ready (rs:=[1]) (by kernel_rfl) (by simp) ?_
 refine AllReady.cons (o:=TS) rfl (fun K hK=>?_) AllReady.nil
 have HK:Hid (K (a4 s bs bi be ds (.agg zS) (.iface 189 (.pointer (some pB))) undef undef undef) U):=hK _ _ (iU C HQ pa _ h)
 clear hK
 unfold TS a4
 go_simp
 exact HK.out
theorem lW(C:R4C V bs bi be)(HQ:H4 Q V bs bi be s pB ds)(pa:Addr)(U:World)(h:R4U V bs bi be pB false U):wpAny Tryz.prog .any BF Q 6 #[false,true,true,false,false,false,false,false] (a4 s bs bi be ds undef (.iface 189 (.pointer (some pB))) (.agg #[.int .i64 0,(.iface 189 (.pointer (some pB)))]) undef undef) U:=by
 have ce:=h.ce
 refine wpAny_ready (rs:=[0,3]) (by kernel_rfl) (by simp) ?_
 refine AllReady.cons (o:=wQ) rfl (fun K hK=>?_) ?_
 ·have HK:Hid (K (a4 s bs bi be ds (.agg zS) (.iface 189 (.pointer (some pB))) (.agg #[.int .i64 0,(.iface 189 (.pointer (some pB)))]) undef undef) U):=hK _ _ (jU C HQ pa _ h)
  clear hK
  rw[if_pos (by simp[Region.wanted,wQ])]
  exact IF rfl HK.out
 refine AllReady.cons (o:=XS) rfl (fun K hK=>?_) AllReady.nil
 have HK:Hid (K (a4 s bs bi be ds undef (.iface 189 (.pointer (some pB))) (.agg #[.int .i64 0,(.iface 189 (.pointer (some pB)))]) (.pointer (some ⟨U.heap.size,0,none⟩)) undef) (U.alloc (.cells #[.int .i64 0,(.iface 189 (.pointer (some pB)))] 57))):=hK _ _ (mW C HQ ⟨U.heap.size,0,none⟩ _ (h.alloc _))
 clear hK
 unfold XS a4
 go_simp
 exact HK.out
theorem fU(C:R4C V bs bi be)(HQ:H4 Q V bs bi be s pB ds)(pa:Addr)(U:World)(h:R4U V bs bi be pB false U):wpAny Tryz.prog .any BF Q 6 #[true,true,false,false,false,false,false,false] (a4 s bs bi be ds (.agg zS) (.iface 189 (.pointer (some pB))) undef undef undef) U:=by
 have ce:=h.ce
 refine wpAny_ready (rs:=[2,5]) (by kernel_rfl) (by simp) ?_
 refine AllReady.cons (o:=US) rfl (fun K hK=>?_) ?_
 ·have HK:Hid (K (a4 s bs bi be ds (.agg zS) (.iface 189 (.pointer (some pB))) (.agg #[.int .i64 0,(.iface 189 (.pointer (some pB)))]) undef undef) U):=hK _ _ (jU C HQ pa _ h)
  clear hK
  unfold US a4
  go_simp
  exact HK.out
 refine AllReady.cons (o:=xQ) rfl (fun K hK=>?_) AllReady.nil
 have HK:Hid (K (a4 s bs bi be ds (.agg zS) (.iface 189 (.pointer (some pB))) undef undef undef) (U.setRow bs zS)):=hK _ _ (gU C HQ pa _ (h.row C))
 clear hK
 rw[if_pos (by simp[Region.wanted,xQ])]
 exact wp_store_row 30 (.tmp 2) (.tmp 13) rfl bs zS (by simp[Act.eval]) (by simp[Act.eval]) 30 zS h.bx.s (infoSent.trans (by rw[GD])) rfl yG HK.out
theorem iW(C:R4C V bs bi be)(HQ:H4 Q V bs bi be s pB ds)(pa:Addr)(U:World)(h:R4U V bs bi be pB false U):wpAny Tryz.prog .any BF Q 6 #[true,false,false,false,false,true,false,false] (a4 s bs bi be ds (.agg zS) undef undef undef undef) U:=by
 have ce:=h.ce
 refine wpAny_ready (rs:=[1,6]) (by kernel_rfl) (by simp) ?_
 refine AllReady.cons (o:=TS) rfl (fun K hK=>?_) ?_
 ·have HK:Hid (K (a4 s bs bi be ds (.agg zS) (.iface 189 (.pointer (some pB))) undef undef undef) U):=hK _ _ (gU C HQ pa _ h)
  clear hK
  unfold TS a4
  go_simp
  exact HK.out
 refine AllReady.cons (o:=yQ) rfl (fun K hK=>?_) AllReady.nil
 have HK:Hid (K (a4 s bs bi be ds (.agg zS) undef undef undef undef) (U.setCell ⟨bi,0,none⟩ (.bool true))):=hK _ _ (jW C HQ pa _ (h.flag C))
 clear hK
 obtain⟨ci,fi⟩:=h.bx.cell_i
 unfold yQ a4
 go_simp
 exact HK.out
theorem kW(C:R4C V bs bi be)(HQ:H4 Q V bs bi be s pB ds)(pa:Addr)(U:World)(h:R4U V bs bi be pB false U):wpAny Tryz.prog .any BF Q 7 #[false,true,false,false,false,false,false,false] (a4 s bs bi be ds undef (.iface 189 (.pointer (some pB))) undef undef undef) U:=by
 have ce:=h.ce
 refine wpAny_ready (rs:=[0,2]) (by kernel_rfl) (by simp) ?_
 refine AllReady.cons (o:=wQ) rfl (fun K hK=>?_) ?_
 ·have HK:Hid (K (a4 s bs bi be ds (.agg zS) (.iface 189 (.pointer (some pB))) undef undef undef) U):=hK _ _ (fU C HQ pa _ h)
  clear hK
  rw[if_pos (by simp[Region.wanted,wQ])]
  exact IF rfl HK.out
 refine AllReady.cons (o:=US) rfl (fun K hK=>?_) AllReady.nil
 have HK:Hid (K (a4 s bs bi be ds undef (.iface 189 (.pointer (some pB))) (.agg #[.int .i64 0,(.iface 189 (.pointer (some pB)))]) undef undef) U):=hK _ _ (lW C HQ pa _ h)
 clear hK
 unfold US a4
 go_simp
 exact HK.out
theorem gW(C:R4C V bs bi be)(HQ:H4 Q V bs bi be s pB ds)(pa:Addr)(U:World)(h:R4U V bs bi be pB false U):wpAny Tryz.prog .any BF Q 7 #[true,false,false,false,false,false,false,false] (a4 s bs bi be ds (.agg zS) undef undef undef undef) U:=by
 have ce:=h.ce
 refine wpAny_ready (rs:=[1,5]) (by kernel_rfl) (by simp) ?_
 refine AllReady.cons (o:=TS) rfl (fun K hK=>?_) ?_
 ·have HK:Hid (K (a4 s bs bi be ds (.agg zS) (.iface 189 (.pointer (some pB))) undef undef undef) U):=hK _ _ (fU C HQ pa _ h)
  clear hK
  unfold TS a4
  go_simp
  exact HK.out
 refine AllReady.cons (o:=xQ) rfl (fun K hK=>?_) AllReady.nil
 have HK:Hid (K (a4 s bs bi be ds (.agg zS) undef undef undef undef) (U.setRow bs zS)):=hK _ _ (iW C HQ pa _ (h.row C))
 clear hK
 rw[if_pos (by simp[Region.wanted,xQ])]
 exact wp_store_row 30 (.tmp 2) (.tmp 13) rfl bs zS (by simp[Act.eval]) (by simp[Act.eval]) 30 zS h.bx.s (infoSent.trans (by rw[GD])) rfl yG HK.out
theorem eW(C:R4C V bs bi be)(HQ:H4 Q V bs bi be s pB ds)(pa:Addr)(U:World)(h:R4U V bs bi be pB false U):wpAny Tryz.prog .any BF Q 8 #[false,false,false,false,false,false,false,false] (a4 s bs bi be ds undef undef undef undef undef) U:=by
 have ce:=h.ce
 refine wpAny_ready (rs:=[0,1]) (by kernel_rfl) (by simp) ?_
 refine AllReady.cons (o:=wQ) rfl (fun K hK=>?_) ?_
 ·have HK:Hid (K (a4 s bs bi be ds (.agg zS) undef undef undef undef) U):=hK _ _ (gW C HQ pa _ h)
  clear hK
  rw[if_pos (by simp[Region.wanted,wQ])]
  exact IF rfl HK.out
 refine AllReady.cons (o:=TS) rfl (fun K hK=>?_) AllReady.nil
 have HK:Hid (K (a4 s bs bi be ds undef (.iface 189 (.pointer (some pB))) undef undef undef) U):=hK _ _ (kW C HQ pa _ h)
 clear hK
 unfold TS a4
 go_simp
 exact HK.out
end
theorem fP{s:ByteArray}(hs:s.size≤100000){w:World}(hg:GlobQ w)(hr:IC s=true)(hl:300<s.size):
 Calls Tryz.prog 6 #[.string s] w fun e w'=>(∃a,e=.returned (.tuple #[.agg zS,.bool true,.iface 55 (.pointer (some a))]))∧Below w.heap.size w w':=by
 obtain⟨hbx,hb0⟩:=bI w
 obtain⟨W,hW⟩:∃W,W=(((w.alloc (.cells zS 30)).alloc (.cells #[.bool false] 4)).alloc (.cells #[.nilIface] 32)):=⟨_,rfl⟩
 rw[←hW] at hbx hb0
 have HW:Hid (W=(((w.alloc (.cells #[.string ⟨#[]⟩,.string ⟨#[]⟩,.int .i64 0,.bool false,.string ⟨#[]⟩,.string ⟨#[]⟩,.string ⟨#[]⟩,.int .i64 0,.slice none 0 0,.string ⟨#[]⟩,.string ⟨#[]⟩,.int .i64 0,.slice none 0 0,.int .i64 0,.slice none 0 0,.int .i64 0,.int .i64 0,.int .i64 0,.string ⟨#[]⟩] 30)).alloc (.cells #[.bool false] 4)).alloc (.cells #[.nilIface] 32))):=hW
 obtain⟨m,hm⟩:=(hg.step hb0).m
 have HI:=aA (NF s hs m W hm)
 rw[hr] at HI
 have HG:=aA (hg.step hb0)
 have HGl:=aA hg.lt
 clear hW hm hg
 go_enter_defers Tryz.func6,Tryz.ntmps6
 go_upto_region 1 with fail
 rw[←HW.out]
 have hz:=hbx.z
 have HX:=aA hbx
 have HB0:=aA hb0
 have n1:w.heap.size≠w.heap.size+1:=by omega
 have n2:w.heap.size≠w.heap.size+1+1:=by omega
 have n3:w.heap.size+1≠w.heap.size+1+1:=by omega
 clear hbx hb0
 have hlz:(300:Int)<s.size:=by omega
 go_upto_region 4 with (go_at_call 14;refine HI.out.mono ?_;rintro e w' ⟨rfl,n,h9⟩;subst h9)
 have HX1:=aA (HX.out.below (Below.drewN_ W n))
 have hg1:=(HG.out.step (Below.drewN_ W n)).b
 obtain⟨pB,hpB⟩:=hg1
 have HD:=aA (HB0.out.trans ((Below.drewN_ W n).mono HB0.out.size))
 have hgl:=HGl.out
 generalize W.drewN n=V at *
 have HC:Hid (R4C V w.heap.size (w.heap.size+1) (w.heap.size+1+1)):=⟨n1,n2,n3,Nat.lt_of_lt_of_le hgl.2.1 HD.out.size,by omega,by omega⟩
 refine wp_region_any (by kernel_rfl) ?_
 refine eW (s:=s) (pB:=pB) HC.out ?_ ⟨0,0,none⟩ V.drew ⟨HX1.out.drew,(Fr3.refl _ _ _ V).drew,hpB⟩
 intro U pa hx hf
 go_wp2
 exact⟨_,oE hx _ rfl rfl rfl,⟨_,rfl⟩,HD.out.trans (hf.below HD.out.size (nR _) (by omega) (by omega))⟩
end Go.Proofs.YtehbinobohjadaaGreatDoor

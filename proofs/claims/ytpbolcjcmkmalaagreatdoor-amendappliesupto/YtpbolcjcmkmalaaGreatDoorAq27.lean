import Derived.Test.YtpbolcjcmkmalaaGreatDoorAq00
import Derived.Test.YtpbolcjcmkmalaaGreatDoorAq01
import Derived.Test.YtpbolcjcmkmalaaGreatDoorAq11
set_option maxHeartbeats 20000000
set_option maxRecDepth 20000
namespace Go.Proofs.YtpbolcjcmkmalaaGreatDoor
open Go.RowKit Go.Extern.Stop Go.Stop Go.Extern
def PJ(w:World)(B n i:Nat)(v:Value)(xs ns:List Value)(e:Ending)(w':World):Prop:=
 (∃v',e=.returned v'∧(v'.ownBlock=v.ownBlock∨∃g,v'.ownBlock=some g∧w.heap.size≤g∧g<w'.heap.size)∧w'.ownsRow B 25 4 v' (n+1) (xs.take (i * 4)++ns++xs.drop (i * 4)))∧w.grownBy w' v.ownBlock
set_option maxRecDepth 100000 in
theorem uO{w:World}{B n vb:Nat}{v:Value}{xs ns:List Value}(h:w.ownsRow B 25 4 v n xs)(hn:n≤1000000)(hv:w.heap[vb]?=some (.cells ns.toArray 25 (0,0)))(hl:ns.length=4)(h1n:∀u∈ns,u.oneCell'=true)(hB:B≤w.heap.size):
 Calls Tryz.prog 77 #[v,.int .i64 n,.slice (some ⟨vb,0,none⟩) 1 1] w (PJ w B n n v xs ns):=by
 obtain⟨i0,iz,hI0,hI1,hI2,hI3,hI4⟩:=Tryz.infoItem
 have HI:=aA (aI hI0 (aI hI1 (aI hI2 (aI hI3 hI4))))
 have HO:=aA h
 obtain⟨va,vc,rfl⟩:=tA h
 have hcap:=zB h
 have hmx:vc≤9223372036854775807:=by
  rcases h.2 with ⟨e,_⟩|⟨g,cap,cur,e,_,_,_,hm,_⟩
  ·injection e with _ _ e;omega
  ·injection e with _ _ e;subst e;unfold maxLen at hm;omega
 have HNW:Hid (∀j u,ns[j]?=some u→w.cell? ((⟨vb,0,none⟩:Addr).add j)=some u):=fun j u hu=>by
  rw[Addr.add_lit,Nat.zero_add]
  simp only[World.cell?,hv]
  simpa using hu
 have HOC:=aA h1n
 have HL:Hid (ns.length=1 * 4):=by show _=_;omega
 have HX:Hid (xs.take (n * 4)=xs∧xs.drop (n * 4)=[]):=⟨List.take_of_length_le (by rw[h.1];omega),List.drop_eq_nil_of_le (by rw[h.1];omega)⟩
 clear h hv h1n hl hI0 hI1 hI2 hI3 hI4
 have hz:((1:Int)==0)=false:=rfl
 by_cases hvc:vc=n
 ·subst hvc
  go_enter Tryz.func77,Tryz.ntmps77
  go_wp2_with (at_builtin;go_loud (refine AA _ rfl (.tmp 23) (.tmp 24) 23 rfl B 25 i0 iz 4 80 Tryz.underlying23 HI.out.1 HI.out.2.1 HI.out.2.2.1 HI.out.2.2.2.1 HI.out.2.2.2.2 (by decide) (.slice va vc vc) vc xs (by simp[Act.eval]) HO.out ⟨vb,0,none⟩ 1 1 ns (by simp[Act.eval]) HL.out HNW.out HOC.out (by decide) (by unfold maxLen;omega) (by omega) hB ?_))
  intro v' w' ho' hg hw
  obtain⟨pa,pc,rfl⟩:=tA ho'
  have HH:=aA (aI ho' (aI hg hw))
  clear ho' hg hw
  go_wp2
  go_ret
  obtain⟨h1,h2,h3⟩:=HH.out
  refine⟨⟨_,rfl,?_,?_⟩,h2⟩
  ·rcases h3 with h3|h3
   ·exact .inl h3
   ·exact .inr ⟨_,h3,nR _,(h1.lt _ h3).2⟩
  ·rw[HX.out.1,HX.out.2,List.append_nil]
   exact h1
 ·obtain⟨g,cap,cur,rfl,rfl⟩:∃g cap,∃cur:Array Value,va=some ⟨g,0,none⟩∧vc=cap:=by
   rcases HO.out.2 with ⟨e,h0⟩|⟨g,cap,cur,e,_⟩
   ·injection e with _ _ e
    omega
   ·injection e with e1 _ e2
    exact⟨g,cap,cur,e1,e2⟩
  go_enter Tryz.func77,Tryz.ntmps77
  go_wp2_with (at_builtin;go_loud (refine AA _ rfl (.tmp 23) (.tmp 24) 23 rfl B 25 i0 iz 4 80 Tryz.underlying23 HI.out.1 HI.out.2.1 HI.out.2.2.1 HI.out.2.2.2.1 HI.out.2.2.2.2 (by decide) (.slice (some ⟨g,0,none⟩) n vc) n xs (by simp[Act.eval]) HO.out ⟨vb,0,none⟩ 1 1 ns (by simp[Act.eval]) HL.out HNW.out HOC.out (by decide) (by unfold maxLen;omega) (by omega) hB ?_))
  intro v' w' ho' hg hw
  obtain⟨pa,pc,rfl⟩:=tA ho'
  have HH:=aA (aI ho' (aI hg hw))
  clear ho' hg hw
  go_wp2
  go_ret
  obtain⟨h1,h2,h3⟩:=HH.out
  refine⟨⟨_,rfl,?_,?_⟩,h2⟩
  ·rcases h3 with h3|h3
   ·exact .inl h3
   ·exact .inr ⟨_,h3,nR _,(h1.lt _ h3).2⟩
  ·rw[HX.out.1,HX.out.2,List.append_nil]
   exact h1
set_option maxRecDepth 100000 in
theorem eN{w:World}{B n i g cap vb:Nat}{cur:Array Value}{xs ns:List Value}(hr:RowB w B 25 4 g cap n cur xs)(h1:∀u∈xs,u.oneCell'=true)(hi:i<n)(hroom:n+1≤cap)(hn:n≤1000000)(hv:w.heap[vb]?=some (.cells ns.toArray 25 (0,0)))(hl:ns.length=4)(h1n:∀u∈ns,u.oneCell'=true)(hvb:vb≠g):
 Calls Tryz.prog 77 #[.slice (some ⟨g,0,none⟩) n cap,.int .i64 i,.slice (some ⟨vb,0,none⟩) 1 1] w (PJ w B n i (.slice (some ⟨g,0,none⟩) n cap) xs ns):=by
 obtain⟨i0,iz,hI0,hI1,hI2,hI3,hI4⟩:=Tryz.infoItem
 have hmx:cap≤9223372036854775807:=by have:=hr.mx;unfold maxLen at this;omega
 have hsz:(Tryz.prog.info? 25).map (·.size)=some 4:=by rw[hI0];simp[hI2]
 have hlen:=hr.len
 have hcl:cur.toList.length=cap * 4:=by simp[hr.sz]
 have hov:∀lb cb,(callFunc 114 #[.slice (some ⟨vb,0,none⟩) 1 1,.slice (some ⟨g,(i+1) * 4,none⟩) lb cb]).run Tryz.prog w=.ok (.value (.bool false)) w:=fun lb cb=>by
  rw[run_callFunc_extern Tryz.func114 (by kernel_rfl) (by kernel_rfl) (by kernel_rfl) (e:=Extern.SlicesOverlaps.overlaps #[23,23] #[4]) (by kernel_rfl),
   Lib.run_overlaps_apart w 23 4 25 Tryz.underlying23 4 Tryz.sizeOf25 ⟨vb,0,none⟩ ⟨g,(i+1) * 4,none⟩ 1 1 lb cb hvb 25 25 4 (cap * 4) (by simp[World.shape?,hv,hl]) (by simp[World.shape?,hr.blk,hr.sz]) (by omega) (by simp[World.frozen?,hv]) (by simp[World.frozen?,hv])]
  rfl
 have hdl:(xs.drop (i * 4)).length=(n - i) * 4:=by rw[List.length_drop,hlen];omega
 have hrd:RowB w.drew B 25 4 g cap n cur xs:=⟨hr.hB,hr.blk,hr.le,hr.mx,hr.sz,hr.is,hr.len⟩
 have hcp1:∀ty dc sc,(Builtin.copy_ #[23,23] ty #[.slice (some ⟨g,(i+1) * 4,none⟩) (n - i) dc,.slice (some ⟨g,i * 4,none⟩) (n+1 - i) sc]).run Tryz.prog w.drew=.ok (goInt (Nat.min (n+1 - i) (n - i))) (w.drew.setCells g ((i+1) * 4) (xs.drop (i * 4))):=fun ty dc sc=>
  PB w.drew _ _ ty 25 g ((i+1) * 4) (n - i) dc ⟨g,i * 4,none⟩ (n+1 - i) sc 4 (xs.drop (i * 4)) Tryz.underlying23 hsz (by rw[hdl];simp only[Nat.min_def];split<;>omega)
   (fun j v hj=>by rw[Addr.add_lit];rw[List.getElem?_drop] at hj;exact hrd.cell hj)
   (fun j hj=>hrd.some' (by rw[hdl] at hj;omega)) (fun j hj=>hrd.frozen _) (fun v hv=>h1 v (List.mem_of_mem_drop hv))
 obtain⟨W1,hW1⟩:∃W1,W1=w.drew.setCells g ((i+1) * 4) (xs.drop (i * 4)):=⟨_,rfl⟩
 rw[←hW1] at hcp1
 obtain⟨cur1,hr1,hcur1⟩:=hrd.set ((i+1) * 4) (xs.drop (i * 4)) (by rw[hdl];omega) (m:=0) (by omega) (ys:=[]) (by simp) (by simp)
 rw[←hW1] at hr1
 have hv1:W1.heap[vb]?=some (.cells ns.toArray 25 (0,0)):=by rw[hW1,gB _ _ _ _ _ hvb];exact hv
 have hcp2:∀(W:World),W.heap=W1.heap→∀ty dc,(Builtin.copy_ #[23,23] ty #[.slice (some ⟨g,i * 4,none⟩) (n+1 - i) dc,.slice (some ⟨vb,0,none⟩) 1 1]).run Tryz.prog W=.ok (goInt (Nat.min 1 (n+1 - i))) (W.setCells g (i * 4) ns):=fun W hW ty dc=>
  PB W _ _ ty 25 g (i * 4) (n+1 - i) dc ⟨vb,0,none⟩ 1 1 4 ns Tryz.underlying23 hsz (by rw[hl];simp only[Nat.min_def];split<;>omega)
   (fun j v hj=>by rw[Addr.add_lit,Nat.zero_add];simp only[World.cell?,hW,hv1];simpa using hj)
   (fun j hj=>by simp only[World.cell?,hW];exact hr1.some' (by rw[hl] at hj;omega)) (fun j hj=>by simp only[World.frozen?,hW];exact hr1.frozen _) h1n
 obtain⟨cur2,hr2,_⟩:=hr1.set (i * 4) ns (by rw[hl];omega) (m:=n+1) (by omega) (ys:=xs.take (i * 4)++ns++xs.drop (i * 4)) (by
  rw[hcur1]
  have e1:(cur.toList.take ((i+1) * 4)++xs.drop (i * 4)++cur.toList.drop ((i+1) * 4+(xs.drop (i * 4)).length)).take (i * 4)=xs.take (i * 4):=by
   rw[List.append_assoc,List.take_append_of_le_length (by rw[List.length_take,hcl];omega),List.take_take,←hr.is,List.take_take]
   congr 1
   omega
  have e2:(cur.toList.take ((i+1) * 4)++xs.drop (i * 4)++cur.toList.drop ((i+1) * 4+(xs.drop (i * 4)).length)).drop (i * 4+ns.length)=xs.drop (i * 4)++cur.toList.drop ((i+1) * 4+(xs.drop (i * 4)).length):=by
   rw[List.append_assoc,List.drop_append_of_le_length (by rw[List.length_take,hcl,hl];omega),List.drop_eq_nil_of_le (by rw[List.length_take,hcl,hl];omega),List.nil_append]
  rw[e1,e2,←List.append_assoc,List.take_append_of_le_length (by simp only[List.length_append,List.length_take,hl,hdl,hlen];omega),List.take_of_length_le (by simp only[List.length_append,List.length_take,hl,hdl,hlen];omega)]) (by simp only[List.length_append,List.length_take,hl,hdl,hlen];omega)
 have HG:Hid (w.grownBy (W1.setCells g (i * 4) ns) (some g)):=by
  rw[hW1]
  exact eC (eC (BD (CD w _)) _ _) _ _
 have HR2:=aA hr2
 have hz1:¬((1:Int)=0):=by omega
 have hz2:¬((i:Int)=(n:Int)):=by omega
 have hz3:¬((cap:Int)<(n:Int)+1):=by omega
 have hw1:IntKind.i64.wrap ((i:Int)+1)=(i:Int)+1:=by rw[IntKind.wrap_i64];omega
 have hw2:IntKind.i64.wrap ((n:Int)+1)=(n:Int)+1:=by rw[IntKind.wrap_i64];omega
 have hb1:(0:Int)≤(i:Int)+1:=by omega
 have hb1n:(0:Int)≤(n:Int)+1:=by omega
 have hin:i≤n:=by omega
 have htn:((i:Int)+1).toNat=i+1:=by omega
 have htn2:((n:Int)+1).toNat=n+1:=by omega
 have hb2:¬(cap=i+1):=by omega
 have hb3:(i:Int)≤(n:Int)+1:=by omega
 have hb4:¬(cap=i):=by omega
 have hb5:(i:Int)≤(n:Int):=by omega
 have hb6:(i:Int)+1≤(n:Int)+1:=by omega
 have hb7:(n:Int)+1≤(cap:Int):=by omega
 have HW:=aA hW1
 clear hr hrd hr1 hr2 hcur1 hcl hdl hlen hv hv1 h1 h1n hl hI0 hI1 hI2 hI3 hI4 hW1
 go_enter Tryz.func77,Tryz.ntmps77
 go_wp2_with (simp only[hov])
 go_region_law (refine oD rfl _ _ 23 23 rfl _ _ (by simp[Act.eval,Act.put]) (by simp[Act.eval,Act.put]) (hcp1 _ _ _) ?_)
 go_wp2_with (refine zC _ rfl (.tmp 80) (.tmp 81) 23 23 rfl _ _ rfl rfl (hcp2 _ rfl _ _) ?_)
 go_ret
 exact⟨⟨_,rfl,.inl rfl,HR2.out.row⟩,HG.out⟩
set_option maxRecDepth 100000 in
theorem dN{w:World}{B n i g cap vb:Nat}{cur:Array Value}{xs ns:List Value}(hr:RowB w B 25 4 g cap n cur xs)(h1:∀u∈xs,u.oneCell'=true)(hi:i<n)(hroom:cap<n+1)(hn:n≤1000000)(hv:w.heap[vb]?=some (.cells ns.toArray 25 (0,0)))(hl:ns.length=4)(h1n:∀u∈ns,u.oneCell'=true)(hB:B≤w.heap.size):
 Calls Tryz.prog 77 #[.slice (some ⟨g,0,none⟩) n cap,.int .i64 i,.slice (some ⟨vb,0,none⟩) 1 1] w (PJ w B n i (.slice (some ⟨g,0,none⟩) n cap) xs ns):=by
 obtain⟨i0,iz,hI0,hI1,hI2,hI3,hI4⟩:=Tryz.infoItem
 have hle:=hr.le
 have hsz:(Tryz.prog.info? 25).map (·.size)=some 4:=by rw[hI0];simp[hI2]
 have hlen:=hr.len
 have hglt:=hr.lt
 have hvlt:=(Array.getElem?_eq_some_iff.1 hv).1
 have hkk:(n:Int)+1 - (i:Int)=((n+1 - i:Nat):Int):=by omega
 have hik:i+(n+1 - i)=n+1:=by omega
 have htl:(xs.take (i * 4)).length=i * 4:=by rw[List.length_take,hlen];omega
 have hdl:(xs.drop (i * 4)).length=(n - i) * 4:=by rw[List.length_drop,hlen];omega
 have hold:(Builtin.firstCells i0.size i (.slice (some ⟨g,0,none⟩) i cap)).run Tryz.prog w.drew=.ok (xs.take (i * 4)).toArray w.drew:=by
  rw[hI2]
  exact run_firstCells_some w.drew 4 i ⟨g,0,none⟩ i cap (xs.take (i * 4)) (by have:=htl;omega) (fun j v hj=>by
   rw[Addr.add_lit,Nat.zero_add]
   rw[List.getElem?_take] at hj
   split at hj
   ·exact hr.cell hj
   ·cases hj)
 have hrz:∀ty,(Builtin.append_ #[23,3] ty #[.slice (some ⟨g,0,none⟩) i cap,.int .i64 ((n:Int)+1 - (i:Int))]).run Tryz.prog w=
  .ok (.slice (some ⟨w.heap.size,0,none⟩) (n+1) (grownCap w (n+1) cap 25)) (w.drew.alloc (.cells ((xs.take (i * 4)).toArray++Builtin.zeroCells iz.cells (n+1 - i)++Builtin.zeroCells iz.cells (grownCap w (n+1) cap 25 - (n+1))) 25)):=fun ty=>by
  have h:=Lib.run_append_grow_zeros w 23 3 ty 25 i0 _ .i64 .i64 Tryz.underlying23 Tryz.underlying3 hI0 hI1 (some ⟨g,0,none⟩) i cap (xs.take (i * 4)) hold (n+1 - i) (by omega) (by omega) (by omega) (by omega) (by rw[hI3];omega) (by rw[hI3,hik];exact growslice_fits hroom (by omega))
  rw[hik] at h
  rw[hkk]
  exact h
 obtain⟨G,hG⟩:∃G,G=grownCap w (n+1) cap 25:=⟨_,rfl⟩
 obtain⟨ROW,hROW⟩:∃ROW:Array Value,ROW=(xs.take (i * 4)).toArray++Builtin.zeroCells iz.cells (n+1 - i)++Builtin.zeroCells iz.cells (G - (n+1)):=⟨_,rfl⟩
 rw[←hG] at hrz
 rw[←hROW] at hrz
 have hGn:n+1≤G:=by rw[hG];exact grownCap_ge w _ _ _
 have hGm:G≤maxLen:=by rw[hG];exact grownCap_le_maxLen w (n+1) cap 25 (by unfold maxLen;omega)
 have hG63:G≤9223372036854775807:=by unfold maxLen at hGm;omega
 have hRs:ROW.size=G * 4:=by
  rw[hROW]
  simp only[Array.size_append,List.size_toArray,htl,Builtin.zeroCells,Array.size_map,Array.size_range,hI4]
  omega
 obtain⟨W1,hW1⟩:∃W1,W1=w.drew.alloc (.cells ROW 25):=⟨_,rfl⟩
 rw[←hW1] at hrz
 have hRt:ROW.toList.take (i * 4)=xs.take (i * 4):=by
  rw[hROW]
  simp only[Array.toList_append,List.append_assoc]
  rw[List.take_append_of_le_length (by rw[htl];omega),List.take_of_length_le (by rw[htl];omega)]
 have hr1:RowB W1 B 25 4 w.heap.size G 0 ROW []:=⟨hB,by rw[hW1];exact Go.Deep.blk_alloc_new w.drew _,by omega,hGm,hRs,by simp,by simp⟩
 have hv1:W1.heap[vb]?=some (.cells ns.toArray 25 (0,0)):=by rw[hW1,Go.Deep.blk_alloc_lt w.drew _ _ hvlt];exact hv
 have hg1:W1.heap[g]?=some (.cells cur 25 (0,0)):=by rw[hW1,Go.Deep.blk_alloc_lt w.drew _ _ hglt];exact hr.blk
 have hcpA:∀(W:World),W.heap=W1.heap→∀ty dc,(Builtin.copy_ #[23,23] ty #[.slice (some ⟨w.heap.size,i * 4,none⟩) (n+1 - i) dc,.slice (some ⟨vb,0,none⟩) 1 1]).run Tryz.prog W=.ok (goInt (Nat.min 1 (n+1 - i))) (W.setCells w.heap.size (i * 4) ns):=fun W hW ty dc=>
  PB W _ _ ty 25 w.heap.size (i * 4) (n+1 - i) dc ⟨vb,0,none⟩ 1 1 4 ns Tryz.underlying23 hsz (by rw[hl];simp only[Nat.min_def];split<;>omega)
   (fun j v hj=>by rw[Addr.add_lit,Nat.zero_add];simp only[World.cell?,hW,hv1];simpa using hj)
   (fun j hj=>by simp only[World.cell?,hW];exact hr1.some' (by rw[hl] at hj;omega)) (fun j hj=>by simp only[World.frozen?,hW];exact hr1.frozen _) h1n
 obtain⟨W2,hW2⟩:∃W2,W2=W1.setCells w.heap.size (i * 4) ns:=⟨_,rfl⟩
 obtain⟨cur2,hr2,hcur2⟩:=hr1.set (i * 4) ns (by rw[hl];omega) (m:=0) (by omega) (ys:=[]) (by simp) (by simp)
 rw[←hW2] at hr2
 have hg2:W2.heap[g]?=some (.cells cur 25 (0,0)):=by rw[hW2,gB _ _ _ _ _ (by omega)];exact hg1
 have hrg:RowB W2 B 25 4 g cap n cur xs:=⟨hr.hB,hg2,hr.le,hr.mx,hr.sz,hr.is,hr.len⟩
 have hcpB:∀(W:World),W.heap=W2.heap→∀ty dc sc,(Builtin.copy_ #[23,23] ty #[.slice (some ⟨w.heap.size,(i+1) * 4,none⟩) (n - i) dc,.slice (some ⟨g,i * 4,none⟩) (n - i) sc]).run Tryz.prog W=.ok (goInt (Nat.min (n - i) (n - i))) (W.setCells w.heap.size ((i+1) * 4) (xs.drop (i * 4))):=fun W hW ty dc sc=>
  PB W _ _ ty 25 w.heap.size ((i+1) * 4) (n - i) dc ⟨g,i * 4,none⟩ (n - i) sc 4 (xs.drop (i * 4)) Tryz.underlying23 hsz (by rw[hdl];simp only[Nat.min_def];split<;>omega)
   (fun j v hj=>by rw[Addr.add_lit];rw[List.getElem?_drop] at hj;have:=hrg.cell hj;simp only[World.cell?,hW] at this ⊢;exact this)
   (fun j hj=>by simp only[World.cell?,hW];exact hr2.some' (by rw[hdl] at hj;omega)) (fun j hj=>by simp only[World.frozen?,hW];exact hr2.frozen _) (fun v hv=>h1 v (List.mem_of_mem_drop hv))
 have HE:Hid (∀W:World,W.heap=(W2.setCells w.heap.size ((i+1) * 4) (xs.drop (i * 4))).heap→W.os=w.os→W.tape=w.tape→W.output=w.output→PJ w B n i (.slice (some ⟨g,0,none⟩) n cap) xs ns (.returned (.slice (some ⟨w.heap.size,0,none⟩) (n+1) G)) W):=fun W hW e1 e2 e3=>by
  obtain⟨cur3,hr3,_⟩:=hr2.set ((i+1) * 4) (xs.drop (i * 4)) (by rw[hdl];omega) (m:=n+1) (by omega) (ys:=xs.take (i * 4)++ns++xs.drop (i * 4)) (by
   have hRl:ROW.toList.length=G * 4:=by simp[hRs]
   have f1:cur2.toList.take ((i+1) * 4)=xs.take (i * 4)++ns:=by
    rw[hcur2,hRt,List.take_append_of_le_length (by rw[List.length_append,htl,hl];omega),List.take_of_length_le (by rw[List.length_append,htl,hl];omega)]
   rw[f1,List.take_append_of_le_length (by simp only[List.length_append,htl,hl,hdl];omega),List.take_of_length_le (by simp only[List.length_append,htl,hl,hdl];omega)]) (by simp only[List.length_append,htl,hl,hdl];omega)
  have hs3:(W2.setCells w.heap.size ((i+1) * 4) (xs.drop (i * 4))).heap.size=w.heap.size+1:=by
   rw[(vA _ _ _ _).2.2.2,hW2,(vA _ _ _ _).2.2.2,hW1]
   simp
  refine⟨⟨_,rfl,.inr ⟨w.heap.size,rfl,nR _,by rw[hW,hs3];omega⟩,?_⟩,⟨e1,e2,e3,by rw[hW,hs3];omega,fun k hk _=>?_⟩⟩
  ·have h9:=hr3.row
   refine⟨h9.1,?_⟩
   rcases h9.2 with h9|⟨g',cap',cur',q1,q2,q3,q4⟩
   ·exact .inl h9
   ·exact .inr ⟨g',cap',cur',q1,q2,by rw[hW];exact q3,q4⟩
  ·rw[hW,gB _ _ _ _ _ (by omega),hW2,gB _ _ _ _ _ (by omega),hW1,Go.Deep.blk_alloc_lt w.drew _ _ hk]
   rfl
 have hz1:¬((1:Int)=0):=by omega
 have hz2:¬((i:Int)=(n:Int)):=by omega
 have hz3:(cap:Int)<(n:Int)+1:=by omega
 have hGi:¬(G=i):=by omega
 have hGim:¬(G=i+1):=by omega
 have hci:¬(cap=i):=by omega
 have hic:i≤cap:=by omega
 have hw1:IntKind.i64.wrap ((i:Int)+1)=(i:Int)+1:=by rw[IntKind.wrap_i64];omega
 have hw2:IntKind.i64.wrap ((n:Int)+1)=(n:Int)+1:=by rw[IntKind.wrap_i64];omega
 have hb1:(0:Int)≤(i:Int)+1:=by omega
 have hin:i≤n:=by omega
 have htn:((i:Int)+1).toNat=i+1:=by omega
 have hb3:(i:Int)≤(n:Int)+1:=by omega
 have hb5:(i:Int)≤(n:Int):=by omega
 have hb6:(i:Int)+1≤(n:Int)+1:=by omega
 have HA1:Hid (∀W:World,W.heap=W1.heap→W.drew.heap=W1.heap):=fun W h=>h
 have HA2:Hid (((w.alloc (.cells ROW 25)).drew.setCells w.heap.size (i * 4) ns).drew.heap=W2.heap):=by
  show _=_
  rw[hW2,hW1]
  rfl
 have HA3:Hid ((w.alloc (.cells ROW 25)).drew.heap=W1.heap):=by show _=_;rw[hW1];rfl
 subst hW1
 have HW2:=aA hW2
 clear hkk hik hold hROW hG hRs hr1 hr2 hcur2 hr hrg hRt hg1 hg2 hv1 hv hle hlen htl hdl hW2 h1 h1n hl hI0 hI1 hI2 hI3 hI4 hGm
 go_enter Tryz.func77,Tryz.ntmps77
 go_wp2_with (first|(at_builtin;refine Lib.wpList_append_run _ rfl (.tmp 34) (.tmp 39) 23 3 rfl _ _ rfl rfl _ _ (hrz _) ?_)|(refine zC _ rfl (.tmp 43) (.tmp 44) 23 23 rfl _ _ rfl rfl (hcpA _ HA3.out _ _) ?_))
 go_region_law (refine oD rfl (.tmp 50) (.tmp 53) 23 23 rfl (.slice (some ⟨w.heap.size,(i+1) * 4,none⟩) (n - i) (G - (i+1))) (.slice (some ⟨g,i * 4,none⟩) (n - i) (cap - i)) (by simp[Act.eval,Act.put]) (by simp[Act.eval,Act.put]) (hcpB _ HA2.out 3 (G - (i+1)) (cap - i)) ?_)
 go_wp2
 go_ret
 refine HE.out _ (pD _ _ _ HA2.out) ?_ ?_ ?_
 ·exact(vA _ _ _ _).1.trans (vA _ _ _ _).1
 ·exact(vA _ _ _ _).2.1.trans (vA _ _ _ _).2.1
 ·exact(vA _ _ _ _).2.2.1.trans (vA _ _ _ _).2.2.1
theorem sO{w:World}{B n i vb:Nat}{v:Value}{xs ns:List Value}(h:w.ownsRow B 25 4 v n xs)(h1:∀u∈xs,u.oneCell'=true)(hi:i≤n)(hn:n≤1000000)(hv:w.heap[vb]?=some (.cells ns.toArray 25 (0,0)))(hl:ns.length=4)(h1n:∀u∈ns,u.oneCell'=true)(hvb:v.ownBlock≠some vb)(hB:B≤w.heap.size):
 Calls Tryz.prog 77 #[v,.int .i64 i,.slice (some ⟨vb,0,none⟩) 1 1] w (PJ w B n i v xs ns):=by
 rcases Nat.lt_or_ge i n with hlt|hge
 ·obtain⟨g,cap,cur,rfl,hr⟩:=UK h (by omega)
  by_cases hroom:n+1≤cap
  ·exact eN hr h1 hlt hroom hn hv hl h1n (fun e=>hvb (by rw[e];rfl))
  ·exact dN hr h1 hlt (by omega) hn hv hl h1n hB
 ·obtain rfl:i=n:=by omega
  exact uO h hn hv hl h1n hB
def QJ(w:World)(B n i:Nat)(v:Value)(xs ns:List Value)(e:Ending)(w':World):Prop:=
 (∃v',e=.returned v'∧(v'.ownBlock=v.ownBlock∨∃g,v'.ownBlock=some g∧w.heap.size≤g∧g<w'.heap.size)∧w'.ownsRow B 9 1 v' (n+1) (xs.take (i)++ns++xs.drop (i)))∧w.grownBy w' v.ownBlock
set_option maxRecDepth 100000 in
theorem vO{w:World}{B n vb:Nat}{v:Value}{xs ns:List Value}(h:w.ownsRow B 9 1 v n xs)(hn:n≤1000000)(hv:w.heap[vb]?=some (.cells ns.toArray 9 (0,0)))(hl:ns.length=1)(h1n:∀u∈ns,u.oneCell'=true)(hB:B≤w.heap.size):
 Calls Tryz.prog 112 #[v,.int .i64 n,.slice (some ⟨vb,0,none⟩) 1 1] w (QJ w B n n v xs ns):=by
 obtain⟨i0,iz,hI0,hI1,hI2,hI3,hI4⟩:=Tryz.infoStr
 have HI:=aA (aI hI0 (aI hI1 (aI hI2 (aI hI3 hI4))))
 have HO:=aA h
 obtain⟨va,vc,rfl⟩:=tA h
 have hcap:=zB h
 have hmx:vc≤9223372036854775807:=by
  rcases h.2 with ⟨e,_⟩|⟨g,cap,cur,e,_,_,_,hm,_⟩
  ·injection e with _ _ e;omega
  ·injection e with _ _ e;subst e;unfold maxLen at hm;omega
 have HNW:Hid (∀j u,ns[j]?=some u→w.cell? ((⟨vb,0,none⟩:Addr).add j)=some u):=fun j u hu=>by
  rw[Addr.add_lit,Nat.zero_add]
  simp only[World.cell?,hv]
  simpa using hu
 have HOC:=aA h1n
 have HL:Hid (ns.length=1 * 1):=by show _=_;omega
 have HX:Hid (xs.take (n)=xs∧xs.drop (n)=[]):=⟨List.take_of_length_le (by rw[h.1];omega),List.drop_eq_nil_of_le (by rw[h.1];omega)⟩
 clear h hv h1n hl hI0 hI1 hI2 hI3 hI4
 have hz:((1:Int)==0)=false:=rfl
 by_cases hvc:vc=n
 ·subst hvc
  go_enter Tryz.func112,Tryz.ntmps112
  go_wp2_with (at_builtin;go_loud (refine AA _ rfl (.tmp 23) (.tmp 24) 22 rfl B 9 i0 iz 1 16 Tryz.underlying22 HI.out.1 HI.out.2.1 HI.out.2.2.1 HI.out.2.2.2.1 HI.out.2.2.2.2 (by decide) (.slice va vc vc) vc xs (by simp[Act.eval]) HO.out ⟨vb,0,none⟩ 1 1 ns (by simp[Act.eval]) HL.out HNW.out HOC.out (by decide) (by unfold maxLen;omega) (by omega) hB ?_))
  intro v' w' ho' hg hw
  obtain⟨pa,pc,rfl⟩:=tA ho'
  have HH:=aA (aI ho' (aI hg hw))
  clear ho' hg hw
  go_wp2
  go_ret
  obtain⟨h1,h2,h3⟩:=HH.out
  refine⟨⟨_,rfl,?_,?_⟩,h2⟩
  ·rcases h3 with h3|h3
   ·exact .inl h3
   ·exact .inr ⟨_,h3,nR _,(h1.lt _ h3).2⟩
  ·rw[HX.out.1,HX.out.2,List.append_nil]
   exact h1
 ·obtain⟨g,cap,cur,rfl,rfl⟩:∃g cap,∃cur:Array Value,va=some ⟨g,0,none⟩∧vc=cap:=by
   rcases HO.out.2 with ⟨e,h0⟩|⟨g,cap,cur,e,_⟩
   ·injection e with _ _ e
    omega
   ·injection e with e1 _ e2
    exact⟨g,cap,cur,e1,e2⟩
  go_enter Tryz.func112,Tryz.ntmps112
  go_wp2_with (at_builtin;go_loud (refine AA _ rfl (.tmp 23) (.tmp 24) 22 rfl B 9 i0 iz 1 16 Tryz.underlying22 HI.out.1 HI.out.2.1 HI.out.2.2.1 HI.out.2.2.2.1 HI.out.2.2.2.2 (by decide) (.slice (some ⟨g,0,none⟩) n vc) n xs (by simp[Act.eval]) HO.out ⟨vb,0,none⟩ 1 1 ns (by simp[Act.eval]) HL.out HNW.out HOC.out (by decide) (by unfold maxLen;omega) (by omega) hB ?_))
  intro v' w' ho' hg hw
  obtain⟨pa,pc,rfl⟩:=tA ho'
  have HH:=aA (aI ho' (aI hg hw))
  clear ho' hg hw
  go_wp2
  go_ret
  obtain⟨h1,h2,h3⟩:=HH.out
  refine⟨⟨_,rfl,?_,?_⟩,h2⟩
  ·rcases h3 with h3|h3
   ·exact .inl h3
   ·exact .inr ⟨_,h3,nR _,(h1.lt _ h3).2⟩
  ·rw[HX.out.1,HX.out.2,List.append_nil]
   exact h1
set_option maxRecDepth 100000 in
theorem gN{w:World}{B n i g cap vb:Nat}{cur:Array Value}{xs ns:List Value}(hr:RowB w B 9 1 g cap n cur xs)(h1:∀u∈xs,u.oneCell'=true)(hi:i<n)(hroom:n+1≤cap)(hn:n≤1000000)(hv:w.heap[vb]?=some (.cells ns.toArray 9 (0,0)))(hl:ns.length=1)(h1n:∀u∈ns,u.oneCell'=true)(hvb:vb≠g):
 Calls Tryz.prog 112 #[.slice (some ⟨g,0,none⟩) n cap,.int .i64 i,.slice (some ⟨vb,0,none⟩) 1 1] w (QJ w B n i (.slice (some ⟨g,0,none⟩) n cap) xs ns):=by
 obtain⟨i0,iz,hI0,hI1,hI2,hI3,hI4⟩:=Tryz.infoStr
 have hmx:cap≤9223372036854775807:=by have:=hr.mx;unfold maxLen at this;omega
 have hsz:(Tryz.prog.info? 9).map (·.size)=some 1:=by rw[hI0];simp[hI2]
 have hlen:=hr.len
 have hcl:cur.toList.length=cap * 1:=by simp[hr.sz]
 have hov:∀lb cb,(callFunc 136 #[.slice (some ⟨vb,0,none⟩) 1 1,.slice (some ⟨g,i+1,none⟩) lb cb]).run Tryz.prog w=.ok (.value (.bool false)) w:=fun lb cb=>by
  rw[run_callFunc_extern Tryz.func136 (by kernel_rfl) (by kernel_rfl) (by kernel_rfl) (e:=Extern.SlicesOverlaps.overlaps #[22,22] #[4]) (by kernel_rfl),
   Lib.run_overlaps_apart w 22 4 9 Tryz.underlying22 1 Tryz.sizeOf9 ⟨vb,0,none⟩ ⟨g,i+1,none⟩ 1 1 lb cb hvb 9 9 1 (cap * 1) (by simp[World.shape?,hv,hl]) (by simp[World.shape?,hr.blk,hr.sz]) (by omega) (by simp[World.frozen?,hv]) (by simp[World.frozen?,hv])]
  rfl
 have hdl:(xs.drop (i)).length=(n - i) * 1:=by rw[List.length_drop,hlen];omega
 have hrd:RowB w.drew B 9 1 g cap n cur xs:=⟨hr.hB,hr.blk,hr.le,hr.mx,hr.sz,hr.is,hr.len⟩
 have hcp1:∀ty dc sc,(Builtin.copy_ #[22,22] ty #[.slice (some ⟨g,i+1,none⟩) (n - i) dc,.slice (some ⟨g,i,none⟩) (n+1 - i) sc]).run Tryz.prog w.drew=.ok (goInt (Nat.min (n+1 - i) (n - i))) (w.drew.setCells g (i+1) (xs.drop (i))):=fun ty dc sc=>
  PB w.drew _ _ ty 9 g (i+1) (n - i) dc ⟨g,i,none⟩ (n+1 - i) sc 1 (xs.drop (i)) Tryz.underlying22 hsz (by rw[hdl];simp only[Nat.min_def];split<;>omega)
   (fun j v hj=>by rw[Addr.add_lit];rw[List.getElem?_drop] at hj;exact hrd.cell hj)
   (fun j hj=>hrd.some' (by rw[hdl] at hj;omega)) (fun j hj=>hrd.frozen _) (fun v hv=>h1 v (List.mem_of_mem_drop hv))
 obtain⟨W1,hW1⟩:∃W1,W1=w.drew.setCells g (i+1) (xs.drop (i)):=⟨_,rfl⟩
 rw[←hW1] at hcp1
 obtain⟨cur1,hr1,hcur1⟩:=hrd.set (i+1) (xs.drop (i)) (by rw[hdl];omega) (m:=0) (by omega) (ys:=[]) (by simp) (by simp)
 rw[←hW1] at hr1
 have hv1:W1.heap[vb]?=some (.cells ns.toArray 9 (0,0)):=by rw[hW1,gB _ _ _ _ _ hvb];exact hv
 have hcp2:∀(W:World),W.heap=W1.heap→∀ty dc,(Builtin.copy_ #[22,22] ty #[.slice (some ⟨g,i,none⟩) (n+1 - i) dc,.slice (some ⟨vb,0,none⟩) 1 1]).run Tryz.prog W=.ok (goInt (Nat.min 1 (n+1 - i))) (W.setCells g (i) ns):=fun W hW ty dc=>
  PB W _ _ ty 9 g (i) (n+1 - i) dc ⟨vb,0,none⟩ 1 1 1 ns Tryz.underlying22 hsz (by rw[hl];simp only[Nat.min_def];split<;>omega)
   (fun j v hj=>by rw[Addr.add_lit,Nat.zero_add];simp only[World.cell?,hW,hv1];simpa using hj)
   (fun j hj=>by simp only[World.cell?,hW];exact hr1.some' (by rw[hl] at hj;omega)) (fun j hj=>by simp only[World.frozen?,hW];exact hr1.frozen _) h1n
 obtain⟨cur2,hr2,_⟩:=hr1.set (i) ns (by rw[hl];omega) (m:=n+1) (by omega) (ys:=xs.take (i)++ns++xs.drop (i)) (by
  rw[hcur1]
  have e1:(cur.toList.take (i+1)++xs.drop (i)++cur.toList.drop (i+1+(xs.drop (i)).length)).take (i)=xs.take (i):=by
   rw[List.append_assoc,List.take_append_of_le_length (by rw[List.length_take,hcl];omega),List.take_take,←hr.is,List.take_take]
   congr 1
   omega
  have e2:(cur.toList.take (i+1)++xs.drop (i)++cur.toList.drop (i+1+(xs.drop (i)).length)).drop (i+ns.length)=xs.drop (i)++cur.toList.drop (i+1+(xs.drop (i)).length):=by
   rw[List.append_assoc,List.drop_append_of_le_length (by rw[List.length_take,hcl,hl];omega),List.drop_eq_nil_of_le (by rw[List.length_take,hcl,hl];omega),List.nil_append]
  rw[e1,e2,←List.append_assoc,List.take_append_of_le_length (by simp only[List.length_append,List.length_take,hl,hdl,hlen];omega),List.take_of_length_le (by simp only[List.length_append,List.length_take,hl,hdl,hlen];omega)]) (by simp only[List.length_append,List.length_take,hl,hdl,hlen];omega)
 have HG:Hid (w.grownBy (W1.setCells g (i) ns) (some g)):=by
  rw[hW1]
  exact eC (eC (BD (CD w _)) _ _) _ _
 have HR2:=aA hr2
 have hz1:¬((1:Int)=0):=by omega
 have hz2:¬((i:Int)=(n:Int)):=by omega
 have hz3:¬((cap:Int)<(n:Int)+1):=by omega
 have hw1:IntKind.i64.wrap ((i:Int)+1)=(i:Int)+1:=by rw[IntKind.wrap_i64];omega
 have hw2:IntKind.i64.wrap ((n:Int)+1)=(n:Int)+1:=by rw[IntKind.wrap_i64];omega
 have hb1:(0:Int)≤(i:Int)+1:=by omega
 have hb1n:(0:Int)≤(n:Int)+1:=by omega
 have hin:i≤n:=by omega
 have htn:((i:Int)+1).toNat=i+1:=by omega
 have htn2:((n:Int)+1).toNat=n+1:=by omega
 have hb2:¬(cap=i+1):=by omega
 have hb3:(i:Int)≤(n:Int)+1:=by omega
 have hb4:¬(cap=i):=by omega
 have hb5:(i:Int)≤(n:Int):=by omega
 have hb6:(i:Int)+1≤(n:Int)+1:=by omega
 have hb7:(n:Int)+1≤(cap:Int):=by omega
 have HW:=aA hW1
 clear hr hrd hr1 hr2 hcur1 hcl hdl hlen hv hv1 h1 h1n hl hI0 hI1 hI2 hI3 hI4 hW1
 go_enter Tryz.func112,Tryz.ntmps112
 go_wp2_with (simp only[hov])
 go_region_law (refine oD rfl _ _ 22 22 rfl _ _ (by simp[Act.eval,Act.put]) (by simp[Act.eval,Act.put]) (hcp1 _ _ _) ?_)
 go_wp2_with (refine zC _ rfl (.tmp 80) (.tmp 81) 22 22 rfl _ _ rfl rfl (hcp2 _ rfl _ _) ?_)
 go_ret
 exact⟨⟨_,rfl,.inl rfl,HR2.out.row⟩,HG.out⟩
set_option maxRecDepth 100000 in
theorem fN{w:World}{B n i g cap vb:Nat}{cur:Array Value}{xs ns:List Value}(hr:RowB w B 9 1 g cap n cur xs)(h1:∀u∈xs,u.oneCell'=true)(hi:i<n)(hroom:cap<n+1)(hn:n≤1000000)(hv:w.heap[vb]?=some (.cells ns.toArray 9 (0,0)))(hl:ns.length=1)(h1n:∀u∈ns,u.oneCell'=true)(hB:B≤w.heap.size):
 Calls Tryz.prog 112 #[.slice (some ⟨g,0,none⟩) n cap,.int .i64 i,.slice (some ⟨vb,0,none⟩) 1 1] w (QJ w B n i (.slice (some ⟨g,0,none⟩) n cap) xs ns):=by
 obtain⟨i0,iz,hI0,hI1,hI2,hI3,hI4⟩:=Tryz.infoStr
 have hle:=hr.le
 have hsz:(Tryz.prog.info? 9).map (·.size)=some 1:=by rw[hI0];simp[hI2]
 have hlen:=hr.len
 have hglt:=hr.lt
 have hvlt:=(Array.getElem?_eq_some_iff.1 hv).1
 have hkk:(n:Int)+1 - (i:Int)=((n+1 - i:Nat):Int):=by omega
 have hik:i+(n+1 - i)=n+1:=by omega
 have htl:(xs.take (i)).length=i:=by rw[List.length_take,hlen];omega
 have hdl:(xs.drop (i)).length=(n - i) * 1:=by rw[List.length_drop,hlen];omega
 have hold:(Builtin.firstCells i0.size i (.slice (some ⟨g,0,none⟩) i cap)).run Tryz.prog w.drew=.ok (xs.take (i)).toArray w.drew:=by
  rw[hI2]
  exact run_firstCells_some w.drew 1 i ⟨g,0,none⟩ i cap (xs.take (i)) (by have:=htl;omega) (fun j v hj=>by
   rw[Addr.add_lit,Nat.zero_add]
   rw[List.getElem?_take] at hj
   split at hj
   ·exact hr.cell hj
   ·cases hj)
 have hrz:∀ty,(Builtin.append_ #[22,3] ty #[.slice (some ⟨g,0,none⟩) i cap,.int .i64 ((n:Int)+1 - (i:Int))]).run Tryz.prog w=
  .ok (.slice (some ⟨w.heap.size,0,none⟩) (n+1) (grownCap w (n+1) cap 9)) (w.drew.alloc (.cells ((xs.take (i)).toArray++Builtin.zeroCells iz.cells (n+1 - i)++Builtin.zeroCells iz.cells (grownCap w (n+1) cap 9 - (n+1))) 9)):=fun ty=>by
  have h:=Lib.run_append_grow_zeros w 22 3 ty 9 i0 _ .i64 .i64 Tryz.underlying22 Tryz.underlying3 hI0 hI1 (some ⟨g,0,none⟩) i cap (xs.take (i)) hold (n+1 - i) (by omega) (by omega) (by omega) (by omega) (by rw[hI3];omega) (by rw[hI3,hik];exact growslice_fits hroom (by omega))
  rw[hik] at h
  rw[hkk]
  exact h
 obtain⟨G,hG⟩:∃G,G=grownCap w (n+1) cap 9:=⟨_,rfl⟩
 obtain⟨ROW,hROW⟩:∃ROW:Array Value,ROW=(xs.take (i)).toArray++Builtin.zeroCells iz.cells (n+1 - i)++Builtin.zeroCells iz.cells (G - (n+1)):=⟨_,rfl⟩
 rw[←hG] at hrz
 rw[←hROW] at hrz
 have hGn:n+1≤G:=by rw[hG];exact grownCap_ge w _ _ _
 have hGm:G≤maxLen:=by rw[hG];exact grownCap_le_maxLen w (n+1) cap 9 (by unfold maxLen;omega)
 have hG63:G≤9223372036854775807:=by unfold maxLen at hGm;omega
 have hRs:ROW.size=G * 1:=by
  rw[hROW]
  simp only[Array.size_append,List.size_toArray,htl,Builtin.zeroCells,Array.size_map,Array.size_range,hI4]
  omega
 obtain⟨W1,hW1⟩:∃W1,W1=w.drew.alloc (.cells ROW 9):=⟨_,rfl⟩
 rw[←hW1] at hrz
 have hRt:ROW.toList.take (i)=xs.take (i):=by
  rw[hROW]
  simp only[Array.toList_append,List.append_assoc]
  rw[List.take_append_of_le_length (by rw[htl];omega),List.take_of_length_le (by rw[htl];omega)]
 have hr1:RowB W1 B 9 1 w.heap.size G 0 ROW []:=⟨hB,by rw[hW1];exact Go.Deep.blk_alloc_new w.drew _,by omega,hGm,hRs,by simp,by simp⟩
 have hv1:W1.heap[vb]?=some (.cells ns.toArray 9 (0,0)):=by rw[hW1,Go.Deep.blk_alloc_lt w.drew _ _ hvlt];exact hv
 have hg1:W1.heap[g]?=some (.cells cur 9 (0,0)):=by rw[hW1,Go.Deep.blk_alloc_lt w.drew _ _ hglt];exact hr.blk
 have hcpA:∀(W:World),W.heap=W1.heap→∀ty dc,(Builtin.copy_ #[22,22] ty #[.slice (some ⟨w.heap.size,i,none⟩) (n+1 - i) dc,.slice (some ⟨vb,0,none⟩) 1 1]).run Tryz.prog W=.ok (goInt (Nat.min 1 (n+1 - i))) (W.setCells w.heap.size (i) ns):=fun W hW ty dc=>
  PB W _ _ ty 9 w.heap.size (i) (n+1 - i) dc ⟨vb,0,none⟩ 1 1 1 ns Tryz.underlying22 hsz (by rw[hl];simp only[Nat.min_def];split<;>omega)
   (fun j v hj=>by rw[Addr.add_lit,Nat.zero_add];simp only[World.cell?,hW,hv1];simpa using hj)
   (fun j hj=>by simp only[World.cell?,hW];exact hr1.some' (by rw[hl] at hj;omega)) (fun j hj=>by simp only[World.frozen?,hW];exact hr1.frozen _) h1n
 obtain⟨W2,hW2⟩:∃W2,W2=W1.setCells w.heap.size (i) ns:=⟨_,rfl⟩
 obtain⟨cur2,hr2,hcur2⟩:=hr1.set (i) ns (by rw[hl];omega) (m:=0) (by omega) (ys:=[]) (by simp) (by simp)
 rw[←hW2] at hr2
 have hg2:W2.heap[g]?=some (.cells cur 9 (0,0)):=by rw[hW2,gB _ _ _ _ _ (by omega)];exact hg1
 have hrg:RowB W2 B 9 1 g cap n cur xs:=⟨hr.hB,hg2,hr.le,hr.mx,hr.sz,hr.is,hr.len⟩
 have hcpB:∀(W:World),W.heap=W2.heap→∀ty dc sc,(Builtin.copy_ #[22,22] ty #[.slice (some ⟨w.heap.size,i+1,none⟩) (n - i) dc,.slice (some ⟨g,i,none⟩) (n - i) sc]).run Tryz.prog W=.ok (goInt (Nat.min (n - i) (n - i))) (W.setCells w.heap.size (i+1) (xs.drop (i))):=fun W hW ty dc sc=>
  PB W _ _ ty 9 w.heap.size (i+1) (n - i) dc ⟨g,i,none⟩ (n - i) sc 1 (xs.drop (i)) Tryz.underlying22 hsz (by rw[hdl];simp only[Nat.min_def];split<;>omega)
   (fun j v hj=>by rw[Addr.add_lit];rw[List.getElem?_drop] at hj;have:=hrg.cell hj;simp only[World.cell?,hW] at this ⊢;exact this)
   (fun j hj=>by simp only[World.cell?,hW];exact hr2.some' (by rw[hdl] at hj;omega)) (fun j hj=>by simp only[World.frozen?,hW];exact hr2.frozen _) (fun v hv=>h1 v (List.mem_of_mem_drop hv))
 have HE:Hid (∀W:World,W.heap=(W2.setCells w.heap.size (i+1) (xs.drop (i))).heap→W.os=w.os→W.tape=w.tape→W.output=w.output→QJ w B n i (.slice (some ⟨g,0,none⟩) n cap) xs ns (.returned (.slice (some ⟨w.heap.size,0,none⟩) (n+1) G)) W):=fun W hW e1 e2 e3=>by
  obtain⟨cur3,hr3,_⟩:=hr2.set (i+1) (xs.drop (i)) (by rw[hdl];omega) (m:=n+1) (by omega) (ys:=xs.take (i)++ns++xs.drop (i)) (by
   have hRl:ROW.toList.length=G * 1:=by simp[hRs]
   have f1:cur2.toList.take (i+1)=xs.take (i)++ns:=by
    rw[hcur2,hRt,List.take_append_of_le_length (by rw[List.length_append,htl,hl];omega),List.take_of_length_le (by rw[List.length_append,htl,hl];omega)]
   rw[f1,List.take_append_of_le_length (by simp only[List.length_append,htl,hl,hdl];omega),List.take_of_length_le (by simp only[List.length_append,htl,hl,hdl];omega)]) (by simp only[List.length_append,htl,hl,hdl];omega)
  have hs3:(W2.setCells w.heap.size (i+1) (xs.drop (i))).heap.size=w.heap.size+1:=by
   rw[(vA _ _ _ _).2.2.2,hW2,(vA _ _ _ _).2.2.2,hW1]
   simp
  refine⟨⟨_,rfl,.inr ⟨w.heap.size,rfl,nR _,by rw[hW,hs3];omega⟩,?_⟩,⟨e1,e2,e3,by rw[hW,hs3];omega,fun k hk _=>?_⟩⟩
  ·have h9:=hr3.row
   refine⟨h9.1,?_⟩
   rcases h9.2 with h9|⟨g',cap',cur',q1,q2,q3,q4⟩
   ·exact .inl h9
   ·exact .inr ⟨g',cap',cur',q1,q2,by rw[hW];exact q3,q4⟩
  ·rw[hW,gB _ _ _ _ _ (by omega),hW2,gB _ _ _ _ _ (by omega),hW1,Go.Deep.blk_alloc_lt w.drew _ _ hk]
   rfl
 have hz1:¬((1:Int)=0):=by omega
 have hz2:¬((i:Int)=(n:Int)):=by omega
 have hz3:(cap:Int)<(n:Int)+1:=by omega
 have hGi:¬(G=i):=by omega
 have hGim:¬(G=i+1):=by omega
 have hci:¬(cap=i):=by omega
 have hic:i≤cap:=by omega
 have hw1:IntKind.i64.wrap ((i:Int)+1)=(i:Int)+1:=by rw[IntKind.wrap_i64];omega
 have hw2:IntKind.i64.wrap ((n:Int)+1)=(n:Int)+1:=by rw[IntKind.wrap_i64];omega
 have hb1:(0:Int)≤(i:Int)+1:=by omega
 have hin:i≤n:=by omega
 have htn:((i:Int)+1).toNat=i+1:=by omega
 have hb3:(i:Int)≤(n:Int)+1:=by omega
 have hb5:(i:Int)≤(n:Int):=by omega
 have hb6:(i:Int)+1≤(n:Int)+1:=by omega
 have HA1:Hid (∀W:World,W.heap=W1.heap→W.drew.heap=W1.heap):=fun W h=>h
 have HA2:Hid (((w.alloc (.cells ROW 9)).drew.setCells w.heap.size (i) ns).drew.heap=W2.heap):=by
  show _=_
  rw[hW2,hW1]
  rfl
 have HA3:Hid ((w.alloc (.cells ROW 9)).drew.heap=W1.heap):=by show _=_;rw[hW1];rfl
 subst hW1
 have HW2:=aA hW2
 clear hkk hik hold hROW hG hRs hr1 hr2 hcur2 hr hrg hRt hg1 hg2 hv1 hv hle hlen htl hdl hW2 h1 h1n hl hI0 hI1 hI2 hI3 hI4 hGm
 go_enter Tryz.func112,Tryz.ntmps112
 go_wp2_with (first|(at_builtin;refine Lib.wpList_append_run _ rfl (.tmp 34) (.tmp 39) 22 3 rfl _ _ rfl rfl _ _ (hrz _) ?_)|(refine zC _ rfl (.tmp 43) (.tmp 44) 22 22 rfl _ _ rfl rfl (hcpA _ HA3.out _ _) ?_))
 go_region_law (refine oD rfl (.tmp 50) (.tmp 53) 22 22 rfl (.slice (some ⟨w.heap.size,i+1,none⟩) (n - i) (G - (i+1))) (.slice (some ⟨g,i,none⟩) (n - i) (cap - i)) (by simp[Act.eval,Act.put]) (by simp[Act.eval,Act.put]) (hcpB _ HA2.out 3 (G - (i+1)) (cap - i)) ?_)
 go_wp2
 go_ret
 refine HE.out _ (pD _ _ _ HA2.out) ?_ ?_ ?_
 ·exact(vA _ _ _ _).1.trans (vA _ _ _ _).1
 ·exact(vA _ _ _ _).2.1.trans (vA _ _ _ _).2.1
 ·exact(vA _ _ _ _).2.2.1.trans (vA _ _ _ _).2.2.1
theorem WR{w:World}{B n i vb:Nat}{v:Value}{xs ns:List Value}(h:w.ownsRow B 9 1 v n xs)(h1:∀u∈xs,u.oneCell'=true)(hi:i≤n)(hn:n≤1000000)(hv:w.heap[vb]?=some (.cells ns.toArray 9 (0,0)))(hl:ns.length=1)(h1n:∀u∈ns,u.oneCell'=true)(hvb:v.ownBlock≠some vb)(hB:B≤w.heap.size):
 Calls Tryz.prog 112 #[v,.int .i64 i,.slice (some ⟨vb,0,none⟩) 1 1] w (QJ w B n i v xs ns):=by
 rcases Nat.lt_or_ge i n with hlt|hge
 ·obtain⟨g,cap,cur,rfl,hr⟩:=UK h (by omega)
  by_cases hroom:n+1≤cap
  ·exact gN hr h1 hlt hroom hn hv hl h1n (fun e=>hvb (by rw[e];rfl))
  ·exact fN hr h1 hlt (by omega) hn hv hl h1n hB
 ·obtain rfl:i=n:=by omega
  exact vO h hn hv hl h1n hB
end Go.Proofs.YtpbolcjcmkmalaaGreatDoor

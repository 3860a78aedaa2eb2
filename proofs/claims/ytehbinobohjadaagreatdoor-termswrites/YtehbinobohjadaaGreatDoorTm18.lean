import Derived.Test.YtehbinobohjadaaGreatDoorTm00
import Derived.Test.YtehbinobohjadaaGreatDoorTm17
set_option maxHeartbeats 20000000
set_option maxRecDepth 20000
namespace Go.Proofs.YtehbinobohjadaaGreatDoor
open Go.RowKit Go.Extern.Stop Go.Stop Go.Extern
def zV(L:List Tok)(f k n:Nat):PR Nd:=(IB L f k n).bind fun a k1 n=>
     if (cA L k1).kind=.s∧iA ordersW (cA L k1).text≠none then (pA L k1 n).bind fun _ k2 n=>(IB L f k2 n).bind fun b k3 n=>.ok (.mk (cA L k1).text ⟨#[]⟩ 0 [a,b]) k3 n
     else if vA a.kind qB=true∧vA (cA L k).text a.word=true then .ok a k1 n else RC L k1
theorem KR(L:List Tok)(f k n:Nat):XD L (f+1) k n=if vA (cA L k).text (sg 40)=true then (qA L k n).bind fun _ k n=>(pA L k n).bind fun _ k n=>(zA L f k n).bind fun x k n=>(oA L (sg 41) k (n - 1)).bind fun _ k n=>.ok x k n
 else if vA (cA L k).text wSome=true∨vA (cA L k).text wEvery=true then
  (qA L k n).bind fun _ k1 n=>(pA L k1 n).bind fun _ k2 n=>(uB L k2 n).bind fun w k3 n=>(oA L (sg 40) k3 n).bind fun _ k4 n=>(zA L f k4 n).bind fun x k5 n=>(oA L (sg 41) k5 (n - 1)).bind fun _ k6 n=>.ok (.mk (cA L k).text w 0 [x]) k6 n
 else zV L f k n:=by
 rw[XD];rfl
theorem mP{L:List Tok}{bp tb cp f:Nat}(h1:OD L bp tb cp 66 (zA L f))(h2:OD L bp tb cp 67 (IB L f)):OD L bp tb cp 147 (XD L (f+1)):=by
 intro w k n h hn
 have hbp:=h.s.in
 have htb:=h.s.tin
 rw[KR] at hn ⊢
 obtain⟨W1,hW1⟩:∃W1,W1=w.alloc (.cells #[.string ⟨#[]⟩,.string ⟨#[]⟩,.int .i64 0,.slice none 0 0] 44):=⟨_,rfl⟩
 have hst:Start w W1:=by rw[hW1];exact Start.new w
 have hlt:=hst.lt
 have HS:=aA (RD (h.below hst.bel).s h.nb)
 have HP:=aA h
 have HX:=aA hW1
 have HT:=aA hst
 have H1:=aA h1
 have H2:=aA h2
 have hx0:((kB (cA L k).kind).toList==[120])=false:=by
  cases (cA L k).kind<;>(rw[Lib.toList_data];decide)
 unfold sI at HS
 have e1:vA (cA L k).text (sg 40)=((cA L k).text.toList==[40]):=CD _ [40]
 have e2:vA (cA L k).text wSome=((cA L k).text.toList==[115,111,109,101]):=CD _ [115,111,109,101]
 have e3:vA (cA L k).text wEvery=((cA L k).text.toList==[101,118,101,114,121]):=CD _ [101,118,101,114,121]
 rw[e1,e2,e3] at hn ⊢
 clear h hW1 hst h1 h2 e1 e2 e3
 by_cases t1:((cA L k).text.toList==[40])=true
 ·rw[if_pos t1] at hn ⊢
  obtain⟨R,hRo⟩:∃R,R=(qA L k n).bind fun _ k1 n=>(pA L k1 n).bind fun _ k2 n=>(zA L f k2 n).bind fun x k3 n=>(oA L (sg 41) k3 (n - 1)).bind fun _ k4 n=>PR.ok x k4 n:=⟨_,rfl⟩
  rw[←hRo] at hn ⊢
  have HN:=aA hn
  have HRo:=aA hRo
  clear hn hRo
  generalize (cA L k).text=K1 at *
  generalize kB (cA L k).kind=K0 at *
  generalize (cA L k).pos=K2 at *
  generalize (cA L k).code=K3 at *
  go_enter Tryz.func147,Tryz.ntmps147
  go_upto_region 2 with (rw[←HX.out];go_at_call 30;refine HS.out.mono ?_;rintro e W2 ⟨rfl,hB2⟩;have HQ2:=aA hB2;clear hB2)
  have h23:Below W2.heap.size W2 (W2.alloc (.cells #[.string K0,.string K1,.int .i64 K2,.int .i64 K3] 82)):=bA _ _
  have hv3:(W2.alloc (.cells #[.string K0,.string K1,.int .i64 K2,.int .i64 K3] 82)).heap[W2.heap.size]?=some (.cells #[.string K0,.string K1,.int .i64 K2,.int .i64 K3] 82 (0,0)):=heap_alloc_new _ _
  have hl3:W2.heap.size<(W2.alloc (.cells #[.string K0,.string K1,.int .i64 K2,.int .i64 K3] 82)).heap.size:=by simp
  generalize W2.alloc (.cells #[.string K0,.string K1,.int .i64 K2,.int .i64 K3] 82)=W3 at *
  have hs2:=HQ2.out.size
  have hs3:=h23.size
  have hB13:Below W1.heap.size W1 W3:=⟨h23.os.trans HQ2.out.os,h23.tape.trans HQ2.out.tape,h23.output.trans HQ2.out.output,by omega,fun q hq=>(h23.block q (by omega)).trans (HQ2.out.block q hq)⟩
  have hB3:Below w.heap.size w W3:=⟨hB13.os.trans HT.out.bel.os,hB13.tape.trans HT.out.bel.tape,hB13.output.trans HT.out.bel.output,by have:=HT.out.bel.size;omega,fun q hq=>(hB13.block q (by omega)).trans (HT.out.bel.block q hq)⟩
  have hr3:=(hB13.block _ hlt).trans HT.out.blk
  obtain⟨c0,c1,c2,c3,cf⟩:=tA hv3
  have hgb:W2.heap.size≠bp:=by have:=HT.out.bel.size;omega
  have hgw:w.heap.size<W2.heap.size:=by omega
  have HB3:=aA hB3
  have HP3:=aA (HP.out.below hB3)
  have HR3:=aA hr3
  have HV3:=aA hv3
  generalize W2.heap.size=g2 at *
  clear h23 hv3 hB13 hB3 hr3 HQ2 hs2 hs3
  have hr3:(((qA L k n).bind fun _ k n=>pA L k n).bind fun _ k n=>zA L f k n)≠.out:=by
   intro h9
   apply HN.out
   rw[HRo.out,←PR.assoc,←PR.assoc,h9]
   rfl
  have hnest:∀x k' n',(((qA L k n).bind fun _ k n=>pA L k n).bind fun _ k n=>zA L f k n)=.ok x k' n'→1≤n':=by
   intro x k' n' h9
   obtain⟨_,_,_,e1,e2⟩:=PR.bind_eq h9
   obtain⟨_,_,_,e3,e4⟩:=PR.bind_eq e1
   have:=tC e3;have:=WB e4;have:=(VG L f).ei _ _ _ _ _ e2
   omega
  have HD:=aA (ZD HP3.out)
  have HSt:=aA (fun (W:World) (hW:PSt L bp tb cp W (qA L k n) (fun _=>True))=>xE hW (YA _ _ _))
  have HU:=aA (fun (W:World) (hW:PSt L bp tb cp W ((qA L k n).bind fun _ k n=>pA L k n) (fun _=>True))=>QC H1.out (fun _ _ _ h=>ZG h) hW hr3)
  have HRf:Hid (R=(((((qA L k n).bind fun _ k n=>pA L k n).bind fun _ k n=>zA L f k n).bind fun x k n=>.ok x k (n - 1)).bind fun x k n=>(oA L (sg 41) k n).bind fun _ k n=>.ok x k n)):=by
   show _=_
   rw[HRo.out,←PR.assoc,←PR.assoc]
   exact Eq.trans rfl (PR.assoc (((qA L k n).bind fun _ k n=>pA L k n).bind fun _ k n=>zA L f k n) (fun x k n=>PR.ok x k (n - 1)) (fun x k n=>(oA L (sg 41) k n).bind fun _ k n=>PR.ok x k n)).symm
  have Hr3:=aA hr3
  have HNe:=aA hnest
  clear hr3 hnest HRo
  generalize (((qA L k n).bind fun _ k n=>pA L k n).bind fun _ k n=>zA L f k n)=r3 at *
  go_upto_region 8 with (first|(go_at_call 148;refine HD.out.mono ?_;rintro e W4 ⟨rfl,hP4,hB4⟩;have HQ4:=aA (aI hP4 hB4);clear hP4 hB4)|(go_at_call 110;refine(HSt.out _ HQ4.out.1).mono ?_;rintro e W5 ⟨rfl,hP5,hB5⟩;have HQ5:=aA (aI hP5 hB5);clear hP5 hB5)|(go_at_call 66;refine(HU.out _ HQ5.out.1).mono ?_;rintro e W6 ⟨⟨u0,u1,m2,la,ln,lc,rfl,hP6⟩,hB6⟩;have HQ6:=aA (aI hP6 hB6);clear hP6 hB6))
  obtain⟨W7,hW7⟩:∃W7,W7=W6.alloc (.cells #[.string u0,.string u1,.int .i64 m2,.slice la ln lc] 44):=⟨_,rfl⟩
  rw[←hW7]
  have h67:Below W6.heap.size W6 W7:=by rw[hW7];exact bA _ _
  have hv7:W7.heap[W6.heap.size]?=some (.cells #[.string u0,.string u1,.int .i64 m2,.slice la ln lc] 44 (0,0)):=by rw[hW7];exact heap_alloc_new _ _
  have hs3:=HB3.out.size
  have hs4:=HQ4.out.2.size
  have hs5:=HQ5.out.2.size
  have hs6:=HQ6.out.2.size
  have hs7:=h67.size
  have hl7:W6.heap.size<W7.heap.size:=by rw[hW7];simp
  have hbw:w.heap.size≠bp:=by omega
  have hb6:W6.heap.size≠bp:=by omega
  have hr7:=((((h67.block w.heap.size (by omega)).trans (HQ6.out.2.block _ (by omega) hbw)).trans (HQ5.out.2.block _ (by omega) hbw)).trans (HQ4.out.2.block _ (by omega) hbw)).trans HR3.out
  have hB7:BelX w.heap.size bp w W7:=((((Below.x HB3.out bp (nR _)).then HQ4.out.2 HB3.out.size).then HQ5.out.2 (by omega)).then HQ6.out.2 (by omega)).then (Below.x h67 bp (nR _)) (by omega)
  have hP7:PSt L bp tb cp W7 r3 (fun x=>NL W7 (fun b=>w.heap.size<b) (nv (.string u0) (.string u1) (.int .i64 m2) (.slice la ln lc)) x):=(HQ6.out.1.below h67).to fun x _ _ _ hx=>hx.step fun b hb hp=>⟨h67.block b hb,by omega⟩
  obtain⟨z,y2,yf,hs8,hB8⟩:=hP7.nest Hr3.out HNe.out
  obtain⟨n0,n1,n2,n3,nf⟩:=tA hv7
  have HA:=aA (aI hr7 (aI hB7 (aI hs8 (aI hB8 hv7))))
  clear hW7 h67 hr7 hB7 hP7 hs8 hB8 hv7
  go_upto_region 9 with fail
  obtain⟨W8,hW8⟩:∃W8,W8=W7.setCell ⟨bp,2,none⟩ (.int .i64 (wrap64 (z - 1))):=⟨_,rfl⟩
  rw[←hW8]
  have h78:∀q,q≠bp→W8.heap[q]?=W7.heap[q]?:=fun q hq=>by rw[hW8];exact Below.heap_setCell _ _ _ _ hq
  obtain⟨h8a,h8b,h8c,h8d,h8e⟩:=HA.out
  have hsz8:W7.heap.size≤W8.heap.size:=by rw[hW8];simp
  rw[show IntKind.i64.wrap (z - 1)=wrap64 (z - 1) from by first|exact IntWalk.i64_left _|(rw[IntKind.wrap_i64];unfold wrap64;rfl),←hW8] at h8c h8d
  have hr8:=(h78 _ hbw).trans h8a
  have hv8:=(h78 _ hb6).trans h8e
  have hB8:=h8b.then h8d h8b.size
  have hr4:(r3.bind fun x k n=>PR.ok x k (n - 1))≠.out:=PR.bind_in Hr3.out fun _ _ _ h=>by cases h
  have hNL8:∀x k n,(r3.bind fun x k n=>PR.ok x k (n - 1))=.ok x k n→NL W8 (fun b=>w.heap.size<b) (nv (.string u0) (.string u1) (.int .i64 m2) (.slice la ln lc)) x:=fun x k n e=>(h8c.val x k n e).step fun b hb hp=>⟨h78 b (by omega),hp⟩
  have HNd:=aA (yC h8c hr4 (sg 41))
  have hlw:w.heap.size<W8.heap.size:=by omega
  have hl6:W6.heap.size<W8.heap.size:=by omega
  have H8:=aA (aI hr8 (aI hv8 (aI hB8 hNL8)))
  unfold sg at HNd
  clear hW8 h78 h8a h8b h8c h8d h8e hr8 hv8 hB8 hr4 hNL8 y2 yf n0 n1 n2 n3 nf HA hsz8 hs3 hs4 hs5 hs6 hs7
  go_wp2_with (go_at_call 65;refine HNd.out.mono ?_;rintro e W9 ⟨rfl,hP9,hB9⟩;obtain⟨q0,q1,q2,q3,qf⟩:=gA H8.out.1 (hB9.block _ hlw hbw);obtain⟨v0,v1,v2,v3,vf⟩:=gA H8.out.2.1 (hB9.block _ hl6 hb6);have HQ9:=aA (aI hP9 hB9);clear hP9 hB9)
  refine bodyPost_ret (v:=.agg #[.string u0,.string u1,.int .i64 m2,.slice la ln lc]) (by simp[results,Tryz.results147,go_sem,q0,q1,q2,q3]) rfl ?_
  refine vB hbp htb (P:=fun b=>w.heap.size<b) ?_ (fun b hb=>hb) (H8.out.2.2.1.then HQ9.out.2 H8.out.2.2.1.size)
  rw[HRf.out]
  exact PSt.carry (F:=fun k n=>oA L (sg 41) k n) HQ9.out.1 fun x k n e=>(H8.out.2.2.2 x k n e).step fun b hb hp=>⟨HQ9.out.2.block b hb (by omega),hp⟩
 ·have t1f:((cA L k).text.toList==[40])=false:=Bool.eq_false_iff.2 t1
  rw[if_neg t1] at hn ⊢
  clear t1
  by_cases t3:((cA L k).text.toList==[115,111,109,101])=true∨((cA L k).text.toList==[101,118,101,114,121])=true
  ·rw[if_pos t3] at hn ⊢
   obtain⟨R,hRo⟩:∃R,R=(qA L k n).bind fun _ k1 n=>(pA L k1 n).bind fun _ k2 n=>(uB L k2 n).bind fun w k3 n=>(oA L (sg 40) k3 n).bind fun _ k4 n=>(zA L f k4 n).bind fun x k5 n=>(oA L (sg 41) k5 (n - 1)).bind fun _ k6 n=>PR.ok (Nd.mk (cA L k).text w 0 [x]) k6 n:=⟨_,rfl⟩
   rw[←hRo] at hn ⊢
   have HN:=aA hn
   have HRo:=aA hRo
   clear hn hRo
   cases t3m:((cA L k).text.toList==[115,111,109,101])
   ·have t4m:((cA L k).text.toList==[101,118,101,114,121])=true:=by
     rcases t3 with h|h
     ·rw[t3m] at h;cases h
     ·exact h
    clear t3
    generalize (cA L k).text=K1 at *
    generalize kB (cA L k).kind=K0 at *
    generalize (cA L k).pos=K2 at *
    generalize (cA L k).code=K3 at *
    go_enter Tryz.func147,Tryz.ntmps147
    go_upto_region 2 with (rw[←HX.out];go_at_call 30;refine HS.out.mono ?_;rintro e W2 ⟨rfl,hB2⟩;have HQ2:=aA hB2;clear hB2)
    have h23:Below W2.heap.size W2 (W2.alloc (.cells #[.string K0,.string K1,.int .i64 K2,.int .i64 K3] 82)):=bA _ _
    have hv3:(W2.alloc (.cells #[.string K0,.string K1,.int .i64 K2,.int .i64 K3] 82)).heap[W2.heap.size]?=some (.cells #[.string K0,.string K1,.int .i64 K2,.int .i64 K3] 82 (0,0)):=heap_alloc_new _ _
    have hl3:W2.heap.size<(W2.alloc (.cells #[.string K0,.string K1,.int .i64 K2,.int .i64 K3] 82)).heap.size:=by simp
    generalize W2.alloc (.cells #[.string K0,.string K1,.int .i64 K2,.int .i64 K3] 82)=W3 at *
    have hs2:=HQ2.out.size
    have hs3:=h23.size
    have hB13:Below W1.heap.size W1 W3:=⟨h23.os.trans HQ2.out.os,h23.tape.trans HQ2.out.tape,h23.output.trans HQ2.out.output,by omega,fun q hq=>(h23.block q (by omega)).trans (HQ2.out.block q hq)⟩
    have hB3:Below w.heap.size w W3:=⟨hB13.os.trans HT.out.bel.os,hB13.tape.trans HT.out.bel.tape,hB13.output.trans HT.out.bel.output,by have:=HT.out.bel.size;omega,fun q hq=>(hB13.block q (by omega)).trans (HT.out.bel.block q hq)⟩
    have hr3:=(hB13.block _ hlt).trans HT.out.blk
    obtain⟨c0,c1,c2,c3,cf⟩:=tA hv3
    have hgb:W2.heap.size≠bp:=by have:=HT.out.bel.size;omega
    have hgw:w.heap.size<W2.heap.size:=by omega
    have HB3:=aA hB3
    have HP3:=aA (HP.out.below hB3)
    have HR3:=aA hr3
    have HV3:=aA hv3
    generalize W2.heap.size=g2 at *
    clear h23 hv3 hB13 hB3 hr3 HQ2 hs2 hs3
    obtain⟨rN,hrN⟩:∃rN,rN=(((qA L k n).bind fun _ k n=>pA L k n).bind fun _ k n=>uB L k n):=⟨_,rfl⟩
    have hnN:rN≠.out:=by rw[hrN];exact PR.bind_in (PR.bind_in (YA _ _ _) fun _ _ _=>DA _ _ _) fun _ _ _=>sD _ _ _
    have hR1:R=rN.bind fun w k3 n=>(oA L (sg 40) k3 n).bind fun _ k4 n=>(zA L f k4 n).bind fun x k5 n=>(oA L (sg 41) k5 (n - 1)).bind fun _ k6 n=>.ok (Nd.mk K1 w 0 [x]) k6 n:=by
     rw[HRo.out,hrN,PR.assoc,PR.assoc]
    obtain⟨r3,hr3e⟩:∃r3,r3=((rN.bind fun _ k n=>oA L (sg 40) k n).bind fun _ k n=>zA L f k n):=⟨_,rfl⟩
    have hr3:r3≠.out:=by
     intro h9
     apply HN.out
     rw[hR1]
     cases rN with
     |out=>rfl
     |bad c a=>rw[hr3e] at h9;cases h9
     |ok x k n=>
      rw[hr3e] at h9
      have h9:((oA L (sg 40) k n).bind fun _ k n=>zA L f k n)=.out:=h9
      show ((oA L (sg 40) k n).bind _)=.out
      rw[←PR.assoc,h9]
      rfl
    have hnest:∀x k' n',r3=.ok x k' n'→1≤n':=by
     intro x k' n' h9
     rw[hr3e] at h9
     obtain⟨_,_,_,e1,e2⟩:=PR.bind_eq h9
     obtain⟨_,_,_,e3,e4⟩:=PR.bind_eq e1
     rw[hrN] at e3
     obtain⟨_,_,_,e5,e6⟩:=PR.bind_eq e3
     obtain⟨_,_,_,e7,e8⟩:=PR.bind_eq e5
     have:=tC e7;have:=WB e8;have:=PF e6;have:=UC e4;have:=(VG L f).ei _ _ _ _ _ e2
     omega
    have HD:=aA (ZD HP3.out)
    have HSt:=aA (fun (W:World) (hW:PSt L bp tb cp W (qA L k n) (fun _=>True))=>xE hW (YA _ _ _))
    have HNm:=aA (fun (W:World) (hW:PSt L bp tb cp W ((qA L k n).bind fun _ k n=>pA L k n) (fun _=>True))=>qG hW (PR.bind_in (YA _ _ _) fun _ _ _=>DA _ _ _))
    rw[←hrN] at HNm
    have HNa:=aA (fun (W:World) (U:ByteArray→Prop) (hW:PSt L bp tb cp W rN U)=>yC hW hnN (sg 40))
    have HU:=aA (fun (W:World) (hW:PSt L bp tb cp W (rN.bind fun _ k n=>oA L (sg 40) k n) (fun _=>True))=>QC H1.out (fun _ _ _ h=>ZG h) hW (hr3e▸hr3))
    rw[←hr3e] at HU
    unfold sg at HNa
    have HR1:=aA hR1
    have Hr3e:=aA hr3e
    have Hr3:=aA hr3
    have HNe:=aA hnest
    clear hR1 hrN hr3e hnN hr3 hnest HRo HN
    go_upto_region 17 with (first|(go_at_call 148;refine HD.out.mono ?_;rintro e W4 ⟨rfl,hP4,hB4⟩;have HQ4:=aA (aI hP4 hB4);clear hP4 hB4)|(go_at_call 110;refine(HSt.out _ HQ4.out.1).mono ?_;rintro e W5 ⟨rfl,hP5,hB5⟩;have HQ5:=aA (aI hP5 hB5);clear hP5 hB5)|(go_at_call 63;refine(HNm.out _ HQ5.out.1).mono ?_;rintro e W6 ⟨⟨s6,rfl,hP6⟩,hB6⟩;have HQ6:=aA (aI hP6 hB6);clear hP6 hB6)|(go_at_call 65;refine(HNa.out _ _ HQ6.out.1).mono ?_;rintro e W7 ⟨rfl,hP7,hB7⟩;have HQ7:=aA (aI hP7 hB7);clear hP7 hB7)|(go_at_call 66;refine(HU.out _ HQ7.out.1).mono ?_;rintro e W9 ⟨⟨w0,w1,p2,oa,on,oc,rfl,hP9⟩,hB9⟩;have HQ9:=aA (aI hP9 hB9);clear hP9 hB9))
    obtain⟨Wb,hWb⟩:∃Wb,Wb=W9.alloc (.cells #[.string w0,.string w1,.int .i64 p2,.slice oa on oc] 44):=⟨_,rfl⟩
    rw[←hWb]
    have h9b:Below W9.heap.size W9 Wb:=by rw[hWb];exact bA _ _
    have hvb:Wb.heap[W9.heap.size]?=some (.cells #[.string w0,.string w1,.int .i64 p2,.slice oa on oc] 44 (0,0)):=by rw[hWb];exact heap_alloc_new _ _
    have hlb:W9.heap.size<Wb.heap.size:=by rw[hWb];simp
    have hs3:=HB3.out.size
    have hs4:=HQ4.out.2.size
    have hs5:=HQ5.out.2.size
    have hs6:=HQ6.out.2.size
    have hs7:=HQ7.out.2.size
    have hs9:=HQ9.out.2.size
    have hbw:w.heap.size≠bp:=by omega
    have hb9:W9.heap.size≠bp:=by omega
    have h3b:∀q,q<W3.heap.size→q≠bp→Wb.heap[q]?=W3.heap[q]?:=fun q hq hne=>(((((h9b.block q (by omega)).trans (HQ9.out.2.block q (by omega) hne)).trans (HQ7.out.2.block q (by omega) hne)).trans (HQ6.out.2.block q (by omega) hne)).trans (HQ5.out.2.block q (by omega) hne)).trans (HQ4.out.2.block q hq hne)
    have hrb:=(h3b w.heap.size (by omega) hbw).trans HR3.out
    have hgb2:=(h3b g2 hl3 hgb).trans HV3.out
    have hBb:BelX w.heap.size bp w Wb:=((((((Below.x HB3.out bp (nR _)).then HQ4.out.2 HB3.out.size).then HQ5.out.2 (by omega)).then HQ6.out.2 (by omega)).then HQ7.out.2 (by omega)).then HQ9.out.2 (by omega)).then (Below.x h9b bp (nR _)) (by omega)
    have hPb:PSt L bp tb cp Wb r3 (fun x=>NL Wb (fun b=>w.heap.size<b) (nv (.string w0) (.string w1) (.int .i64 p2) (.slice oa on oc)) x):=(HQ9.out.1.below h9b).to fun x _ _ _ hx=>hx.step fun b hb hp=>⟨h9b.block b hb,by omega⟩
    obtain⟨z,y2,yf,hs10,hB10⟩:=hPb.nest Hr3.out HNe.out
    have HA:=aA (aI hrb (aI hgb2 (aI hvb (aI hBb (aI hs10 hB10)))))
    clear hWb h9b hvb h3b hrb hgb2 hBb hPb hs10 hB10
    go_upto_region 18 with fail
    obtain⟨Wc,hWc⟩:∃Wc,Wc=Wb.setCell ⟨bp,2,none⟩ (.int .i64 (wrap64 (z - 1))):=⟨_,rfl⟩
    rw[←hWc]
    have hbc:∀q,q≠bp→Wc.heap[q]?=Wb.heap[q]?:=fun q hq=>by rw[hWc];exact Below.heap_setCell _ _ _ _ hq
    obtain⟨ha,hb,hd,he,hf,hg⟩:=HA.out
    have hszc:Wb.heap.size≤Wc.heap.size:=by rw[hWc];simp
    rw[show IntKind.i64.wrap (z - 1)=wrap64 (z - 1) from by first|exact IntWalk.i64_left _|(rw[IntKind.wrap_i64];unfold wrap64;rfl),←hWc] at hf hg
    have hr4:(r3.bind fun x k n=>PR.ok x k (n - 1))≠.out:=PR.bind_in Hr3.out fun _ _ _ h=>by cases h
    have HNc:=aA (yC hf hr4 (sg 41))
    have H8:=aA (aI ((hbc _ hbw).trans ha) (aI ((hbc _ hgb).trans hb) (aI ((hbc _ hb9).trans hd) (aI (he.then hg he.size) (fun x k n e=>(hf.val x k n e).step (P':=fun b=>w.heap.size<b) (w':=Wc) fun b hb' hp=>⟨hbc b (by omega),hp⟩)))))
    have hlw:w.heap.size<Wc.heap.size:=by omega
    have hlg:g2<Wc.heap.size:=by omega
    have hl9:W9.heap.size<Wc.heap.size:=by omega
    unfold sg at HNc
    clear hWc hbc ha hb hd he hf hg hr4 y2 yf HA hszc hs3 hs4 hs5 hs6 hs7 hs9 hlb
    go_wp2_with (go_at_call 65;refine HNc.out.mono ?_;rintro e Wd ⟨rfl,hPd,hBd⟩;obtain⟨q0,q1,q2,q3,qf⟩:=gA H8.out.1 (hBd.block _ hlw hbw);obtain⟨i0,i1,i2,i3,if'⟩:=gA H8.out.2.1 (hBd.block _ hlg hgb);obtain⟨o0,o1,o2,o3,of'⟩:=gA H8.out.2.2.1 (hBd.block _ hl9 hb9);have hrd:=(hBd.block _ hlw hbw).trans H8.out.1;have hld:w.heap.size<Wd.heap.size:=(Nat.lt_of_lt_of_le hlw hBd.size);have HQd:=aA (aI hPd (aI hBd hrd));clear hPd hBd hrd)
    have hx:=tA (DG HQd.out.2.2 (.string K1) (.string s6) (.int .i64 0) (.string w0) (.string w1) (.int .i64 p2) (.slice oa on oc)).var
    unfold yK at hx
    obtain⟨x0,x1,x2,x3,_⟩:=hx
    refine bodyPost_ret (v:=.agg #[.string K1,.string s6,.int .i64 0,.slice (some ⟨Wd.heap.size,0,none⟩) 1 1]) (by simp[results,Tryz.results147,go_sem,x0,x1,x2,x3]) rfl ?_
    have hPf:=PSt.carry (F:=fun k n=>oA L (sg 41) k n) HQd.out.1 (V:=fun y=>NL Wd (fun b=>w.heap.size<b) (nv (.string w0) (.string w1) (.int .i64 p2) (.slice oa on oc)) y) fun x k n e=>(H8.out.2.2.2.2 x k n e).step fun b hb hp=>⟨HQd.out.2.1.block b hb (by omega),hp⟩
    have h9:=GS (L:=L) (bp:=bp) (tb:=tb) (cp:=cp) (P:=fun b=>w.heap.size<b) hbp htb HQd.out.2.2 hPf (fun b hb=>hb) (H8.out.2.2.2.1.then HQd.out.2.1 H8.out.2.2.2.1.size) hld K1 s6 0
    have hRf:(((r3.bind fun x k n=>PR.ok x k (n - 1)).bind fun y k n=>(oA L (sg 41) k n).bind fun _ k n=>.ok y k n).bind fun y k n=>.ok (Nd.mk K1 s6 0 [y]) k n)=R:=by
     have hv:=HQ6.out.1.val
     rw[HR1.out,Hr3e.out]
     cases hA:rN with
     |out=>rfl
     |bad c a=>rfl
     |ok x k' n'=>
      have hx6:x=s6:=hv x k' n' hA
      subst hx6
      show (((((oA L (sg 40) k' n').bind fun _ k n=>zA L f k n).bind _).bind _).bind _)=(oA L (sg 40) k' n').bind _
      cases oA L (sg 40) k' n' with
      |out=>rfl
      |bad c a=>rfl
      |ok y k n=>
       show ((((zA L f k n).bind _).bind _).bind _)=(zA L f k n).bind _
       cases zA L f k n with
       |out=>rfl
       |bad c a=>rfl
       |ok y k n=>
        show ((oA L (sg 41) k (n - 1)).bind _).bind _=(oA L (sg 41) k (n - 1)).bind _
        cases oA L (sg 41) k (n - 1)<;>rfl
    rw[hRf] at h9
    exact h9
   ·clear t3
    generalize (cA L k).text=K1 at *
    generalize kB (cA L k).kind=K0 at *
    generalize (cA L k).pos=K2 at *
    generalize (cA L k).code=K3 at *
    go_enter Tryz.func147,Tryz.ntmps147
    go_upto_region 2 with (rw[←HX.out];go_at_call 30;refine HS.out.mono ?_;rintro e W2 ⟨rfl,hB2⟩;have HQ2:=aA hB2;clear hB2)
    have h23:Below W2.heap.size W2 (W2.alloc (.cells #[.string K0,.string K1,.int .i64 K2,.int .i64 K3] 82)):=bA _ _
    have hv3:(W2.alloc (.cells #[.string K0,.string K1,.int .i64 K2,.int .i64 K3] 82)).heap[W2.heap.size]?=some (.cells #[.string K0,.string K1,.int .i64 K2,.int .i64 K3] 82 (0,0)):=heap_alloc_new _ _
    have hl3:W2.heap.size<(W2.alloc (.cells #[.string K0,.string K1,.int .i64 K2,.int .i64 K3] 82)).heap.size:=by simp
    generalize W2.alloc (.cells #[.string K0,.string K1,.int .i64 K2,.int .i64 K3] 82)=W3 at *
    have hs2:=HQ2.out.size
    have hs3:=h23.size
    have hB13:Below W1.heap.size W1 W3:=⟨h23.os.trans HQ2.out.os,h23.tape.trans HQ2.out.tape,h23.output.trans HQ2.out.output,by omega,fun q hq=>(h23.block q (by omega)).trans (HQ2.out.block q hq)⟩
    have hB3:Below w.heap.size w W3:=⟨hB13.os.trans HT.out.bel.os,hB13.tape.trans HT.out.bel.tape,hB13.output.trans HT.out.bel.output,by have:=HT.out.bel.size;omega,fun q hq=>(hB13.block q (by omega)).trans (HT.out.bel.block q hq)⟩
    have hr3:=(hB13.block _ hlt).trans HT.out.blk
    obtain⟨c0,c1,c2,c3,cf⟩:=tA hv3
    have hgb:W2.heap.size≠bp:=by have:=HT.out.bel.size;omega
    have hgw:w.heap.size<W2.heap.size:=by omega
    have HB3:=aA hB3
    have HP3:=aA (HP.out.below hB3)
    have HR3:=aA hr3
    have HV3:=aA hv3
    generalize W2.heap.size=g2 at *
    clear h23 hv3 hB13 hB3 hr3 HQ2 hs2 hs3
    obtain⟨rN,hrN⟩:∃rN,rN=(((qA L k n).bind fun _ k n=>pA L k n).bind fun _ k n=>uB L k n):=⟨_,rfl⟩
    have hnN:rN≠.out:=by rw[hrN];exact PR.bind_in (PR.bind_in (YA _ _ _) fun _ _ _=>DA _ _ _) fun _ _ _=>sD _ _ _
    have hR1:R=rN.bind fun w k3 n=>(oA L (sg 40) k3 n).bind fun _ k4 n=>(zA L f k4 n).bind fun x k5 n=>(oA L (sg 41) k5 (n - 1)).bind fun _ k6 n=>.ok (Nd.mk K1 w 0 [x]) k6 n:=by
     rw[HRo.out,hrN,PR.assoc,PR.assoc]
    obtain⟨r3,hr3e⟩:∃r3,r3=((rN.bind fun _ k n=>oA L (sg 40) k n).bind fun _ k n=>zA L f k n):=⟨_,rfl⟩
    have hr3:r3≠.out:=by
     intro h9
     apply HN.out
     rw[hR1]
     cases rN with
     |out=>rfl
     |bad c a=>rw[hr3e] at h9;cases h9
     |ok x k n=>
      rw[hr3e] at h9
      have h9:((oA L (sg 40) k n).bind fun _ k n=>zA L f k n)=.out:=h9
      show ((oA L (sg 40) k n).bind _)=.out
      rw[←PR.assoc,h9]
      rfl
    have hnest:∀x k' n',r3=.ok x k' n'→1≤n':=by
     intro x k' n' h9
     rw[hr3e] at h9
     obtain⟨_,_,_,e1,e2⟩:=PR.bind_eq h9
     obtain⟨_,_,_,e3,e4⟩:=PR.bind_eq e1
     rw[hrN] at e3
     obtain⟨_,_,_,e5,e6⟩:=PR.bind_eq e3
     obtain⟨_,_,_,e7,e8⟩:=PR.bind_eq e5
     have:=tC e7;have:=WB e8;have:=PF e6;have:=UC e4;have:=(VG L f).ei _ _ _ _ _ e2
     omega
    have HD:=aA (ZD HP3.out)
    have HSt:=aA (fun (W:World) (hW:PSt L bp tb cp W (qA L k n) (fun _=>True))=>xE hW (YA _ _ _))
    have HNm:=aA (fun (W:World) (hW:PSt L bp tb cp W ((qA L k n).bind fun _ k n=>pA L k n) (fun _=>True))=>qG hW (PR.bind_in (YA _ _ _) fun _ _ _=>DA _ _ _))
    rw[←hrN] at HNm
    have HNa:=aA (fun (W:World) (U:ByteArray→Prop) (hW:PSt L bp tb cp W rN U)=>yC hW hnN (sg 40))
    have HU:=aA (fun (W:World) (hW:PSt L bp tb cp W (rN.bind fun _ k n=>oA L (sg 40) k n) (fun _=>True))=>QC H1.out (fun _ _ _ h=>ZG h) hW (hr3e▸hr3))
    rw[←hr3e] at HU
    unfold sg at HNa
    have HR1:=aA hR1
    have Hr3e:=aA hr3e
    have Hr3:=aA hr3
    have HNe:=aA hnest
    clear hR1 hrN hr3e hnN hr3 hnest HRo HN
    go_upto_region 17 with (first|(go_at_call 148;refine HD.out.mono ?_;rintro e W4 ⟨rfl,hP4,hB4⟩;have HQ4:=aA (aI hP4 hB4);clear hP4 hB4)|(go_at_call 110;refine(HSt.out _ HQ4.out.1).mono ?_;rintro e W5 ⟨rfl,hP5,hB5⟩;have HQ5:=aA (aI hP5 hB5);clear hP5 hB5)|(go_at_call 63;refine(HNm.out _ HQ5.out.1).mono ?_;rintro e W6 ⟨⟨s6,rfl,hP6⟩,hB6⟩;have HQ6:=aA (aI hP6 hB6);clear hP6 hB6)|(go_at_call 65;refine(HNa.out _ _ HQ6.out.1).mono ?_;rintro e W7 ⟨rfl,hP7,hB7⟩;have HQ7:=aA (aI hP7 hB7);clear hP7 hB7)|(go_at_call 66;refine(HU.out _ HQ7.out.1).mono ?_;rintro e W9 ⟨⟨w0,w1,p2,oa,on,oc,rfl,hP9⟩,hB9⟩;have HQ9:=aA (aI hP9 hB9);clear hP9 hB9))
    obtain⟨Wb,hWb⟩:∃Wb,Wb=W9.alloc (.cells #[.string w0,.string w1,.int .i64 p2,.slice oa on oc] 44):=⟨_,rfl⟩
    rw[←hWb]
    have h9b:Below W9.heap.size W9 Wb:=by rw[hWb];exact bA _ _
    have hvb:Wb.heap[W9.heap.size]?=some (.cells #[.string w0,.string w1,.int .i64 p2,.slice oa on oc] 44 (0,0)):=by rw[hWb];exact heap_alloc_new _ _
    have hlb:W9.heap.size<Wb.heap.size:=by rw[hWb];simp
    have hs3:=HB3.out.size
    have hs4:=HQ4.out.2.size
    have hs5:=HQ5.out.2.size
    have hs6:=HQ6.out.2.size
    have hs7:=HQ7.out.2.size
    have hs9:=HQ9.out.2.size
    have hbw:w.heap.size≠bp:=by omega
    have hb9:W9.heap.size≠bp:=by omega
    have h3b:∀q,q<W3.heap.size→q≠bp→Wb.heap[q]?=W3.heap[q]?:=fun q hq hne=>(((((h9b.block q (by omega)).trans (HQ9.out.2.block q (by omega) hne)).trans (HQ7.out.2.block q (by omega) hne)).trans (HQ6.out.2.block q (by omega) hne)).trans (HQ5.out.2.block q (by omega) hne)).trans (HQ4.out.2.block q hq hne)
    have hrb:=(h3b w.heap.size (by omega) hbw).trans HR3.out
    have hgb2:=(h3b g2 hl3 hgb).trans HV3.out
    have hBb:BelX w.heap.size bp w Wb:=((((((Below.x HB3.out bp (nR _)).then HQ4.out.2 HB3.out.size).then HQ5.out.2 (by omega)).then HQ6.out.2 (by omega)).then HQ7.out.2 (by omega)).then HQ9.out.2 (by omega)).then (Below.x h9b bp (nR _)) (by omega)
    have hPb:PSt L bp tb cp Wb r3 (fun x=>NL Wb (fun b=>w.heap.size<b) (nv (.string w0) (.string w1) (.int .i64 p2) (.slice oa on oc)) x):=(HQ9.out.1.below h9b).to fun x _ _ _ hx=>hx.step fun b hb hp=>⟨h9b.block b hb,by omega⟩
    obtain⟨z,y2,yf,hs10,hB10⟩:=hPb.nest Hr3.out HNe.out
    have HA:=aA (aI hrb (aI hgb2 (aI hvb (aI hBb (aI hs10 hB10)))))
    clear hWb h9b hvb h3b hrb hgb2 hBb hPb hs10 hB10
    go_upto_region 18 with fail
    obtain⟨Wc,hWc⟩:∃Wc,Wc=Wb.setCell ⟨bp,2,none⟩ (.int .i64 (wrap64 (z - 1))):=⟨_,rfl⟩
    rw[←hWc]
    have hbc:∀q,q≠bp→Wc.heap[q]?=Wb.heap[q]?:=fun q hq=>by rw[hWc];exact Below.heap_setCell _ _ _ _ hq
    obtain⟨ha,hb,hd,he,hf,hg⟩:=HA.out
    have hszc:Wb.heap.size≤Wc.heap.size:=by rw[hWc];simp
    rw[show IntKind.i64.wrap (z - 1)=wrap64 (z - 1) from by first|exact IntWalk.i64_left _|(rw[IntKind.wrap_i64];unfold wrap64;rfl),←hWc] at hf hg
    have hr4:(r3.bind fun x k n=>PR.ok x k (n - 1))≠.out:=PR.bind_in Hr3.out fun _ _ _ h=>by cases h
    have HNc:=aA (yC hf hr4 (sg 41))
    have H8:=aA (aI ((hbc _ hbw).trans ha) (aI ((hbc _ hgb).trans hb) (aI ((hbc _ hb9).trans hd) (aI (he.then hg he.size) (fun x k n e=>(hf.val x k n e).step (P':=fun b=>w.heap.size<b) (w':=Wc) fun b hb' hp=>⟨hbc b (by omega),hp⟩)))))
    have hlw:w.heap.size<Wc.heap.size:=by omega
    have hlg:g2<Wc.heap.size:=by omega
    have hl9:W9.heap.size<Wc.heap.size:=by omega
    unfold sg at HNc
    clear hWc hbc ha hb hd he hf hg hr4 y2 yf HA hszc hs3 hs4 hs5 hs6 hs7 hs9 hlb
    go_wp2_with (go_at_call 65;refine HNc.out.mono ?_;rintro e Wd ⟨rfl,hPd,hBd⟩;obtain⟨q0,q1,q2,q3,qf⟩:=gA H8.out.1 (hBd.block _ hlw hbw);obtain⟨i0,i1,i2,i3,if'⟩:=gA H8.out.2.1 (hBd.block _ hlg hgb);obtain⟨o0,o1,o2,o3,of'⟩:=gA H8.out.2.2.1 (hBd.block _ hl9 hb9);have hrd:=(hBd.block _ hlw hbw).trans H8.out.1;have hld:w.heap.size<Wd.heap.size:=(Nat.lt_of_lt_of_le hlw hBd.size);have HQd:=aA (aI hPd (aI hBd hrd));clear hPd hBd hrd)
    have hx:=tA (DG HQd.out.2.2 (.string K1) (.string s6) (.int .i64 0) (.string w0) (.string w1) (.int .i64 p2) (.slice oa on oc)).var
    unfold yK at hx
    obtain⟨x0,x1,x2,x3,_⟩:=hx
    refine bodyPost_ret (v:=.agg #[.string K1,.string s6,.int .i64 0,.slice (some ⟨Wd.heap.size,0,none⟩) 1 1]) (by simp[results,Tryz.results147,go_sem,x0,x1,x2,x3]) rfl ?_
    have hPf:=PSt.carry (F:=fun k n=>oA L (sg 41) k n) HQd.out.1 (V:=fun y=>NL Wd (fun b=>w.heap.size<b) (nv (.string w0) (.string w1) (.int .i64 p2) (.slice oa on oc)) y) fun x k n e=>(H8.out.2.2.2.2 x k n e).step fun b hb hp=>⟨HQd.out.2.1.block b hb (by omega),hp⟩
    have h9:=GS (L:=L) (bp:=bp) (tb:=tb) (cp:=cp) (P:=fun b=>w.heap.size<b) hbp htb HQd.out.2.2 hPf (fun b hb=>hb) (H8.out.2.2.2.1.then HQd.out.2.1 H8.out.2.2.2.1.size) hld K1 s6 0
    have hRf:(((r3.bind fun x k n=>PR.ok x k (n - 1)).bind fun y k n=>(oA L (sg 41) k n).bind fun _ k n=>.ok y k n).bind fun y k n=>.ok (Nd.mk K1 s6 0 [y]) k n)=R:=by
     have hv:=HQ6.out.1.val
     rw[HR1.out,Hr3e.out]
     cases hA:rN with
     |out=>rfl
     |bad c a=>rfl
     |ok x k' n'=>
      have hx6:x=s6:=hv x k' n' hA
      subst hx6
      show (((((oA L (sg 40) k' n').bind fun _ k n=>zA L f k n).bind _).bind _).bind _)=(oA L (sg 40) k' n').bind _
      cases oA L (sg 40) k' n' with
      |out=>rfl
      |bad c a=>rfl
      |ok y k n=>
       show ((((zA L f k n).bind _).bind _).bind _)=(zA L f k n).bind _
       cases zA L f k n with
       |out=>rfl
       |bad c a=>rfl
       |ok y k n=>
        show ((oA L (sg 41) k (n - 1)).bind _).bind _=(oA L (sg 41) k (n - 1)).bind _
        cases oA L (sg 41) k (n - 1)<;>rfl
    rw[hRf] at h9
    exact h9
  ·have t3f:((cA L k).text.toList==[115,111,109,101])=false:=Bool.eq_false_iff.2 fun h=>t3 (.inl h)
   have t4f:((cA L k).text.toList==[101,118,101,114,121])=false:=Bool.eq_false_iff.2 fun h=>t3 (.inr h)
   rw[if_neg t3] at hn ⊢
   clear t3
   obtain⟨R,hRo⟩:∃R,R=zV L f k n:=⟨_,rfl⟩
   rw[←hRo] at hn ⊢
   unfold zV at hRo
   have HN:=aA hn
   have HRo:=aA hRo
   clear hn hRo
   generalize (cA L k).text=K1 at *
   generalize kB (cA L k).kind=K0 at *
   generalize (cA L k).pos=K2 at *
   generalize (cA L k).code=K3 at *
   go_enter Tryz.func147,Tryz.ntmps147
   go_upto_region 2 with (rw[←HX.out];go_at_call 30;refine HS.out.mono ?_;rintro e W2 ⟨rfl,hB2⟩;have HQ2:=aA hB2;clear hB2)
   have h23:Below W2.heap.size W2 (W2.alloc (.cells #[.string K0,.string K1,.int .i64 K2,.int .i64 K3] 82)):=bA _ _
   have hv3:(W2.alloc (.cells #[.string K0,.string K1,.int .i64 K2,.int .i64 K3] 82)).heap[W2.heap.size]?=some (.cells #[.string K0,.string K1,.int .i64 K2,.int .i64 K3] 82 (0,0)):=heap_alloc_new _ _
   have hl3:W2.heap.size<(W2.alloc (.cells #[.string K0,.string K1,.int .i64 K2,.int .i64 K3] 82)).heap.size:=by simp
   generalize W2.alloc (.cells #[.string K0,.string K1,.int .i64 K2,.int .i64 K3] 82)=W3 at *
   have hs2:=HQ2.out.size
   have hs3:=h23.size
   have hB13:Below W1.heap.size W1 W3:=⟨h23.os.trans HQ2.out.os,h23.tape.trans HQ2.out.tape,h23.output.trans HQ2.out.output,by omega,fun q hq=>(h23.block q (by omega)).trans (HQ2.out.block q hq)⟩
   have hB3:Below w.heap.size w W3:=⟨hB13.os.trans HT.out.bel.os,hB13.tape.trans HT.out.bel.tape,hB13.output.trans HT.out.bel.output,by have:=HT.out.bel.size;omega,fun q hq=>(hB13.block q (by omega)).trans (HT.out.bel.block q hq)⟩
   have hr3:=(hB13.block _ hlt).trans HT.out.blk
   obtain⟨c0,c1,c2,c3,cf⟩:=tA hv3
   have hgb:W2.heap.size≠bp:=by have:=HT.out.bel.size;omega
   have hgw:w.heap.size<W2.heap.size:=by omega
   have HB3:=aA hB3
   have HP3:=aA (HP.out.below hB3)
   have HR3:=aA hr3
   have HV3:=aA hv3
   generalize W2.heap.size=g2 at *
   clear h23 hv3 hB13 hB3 hr3 HQ2 hs2 hs3
   have hnA:IB L f k n≠.out:=PR.bind_not (HRo.out▸HN.out)
   have HSa:=aA (H2.out _ k n HP3.out hnA)
   have HnA:=aA hnA
   clear hnA
   go_upto_region 21 with (go_at_call 67;refine HSa.out.mono ?_;rintro e W4 ⟨⟨u0,u1,m2,la,ln,lc,rfl,hP4⟩,hB4⟩;have HQ4:=aA (aI hP4 hB4);clear hP4 hB4)
   obtain⟨Wa,hWa⟩:∃Wa,Wa=W4.alloc (.cells #[.string u0,.string u1,.int .i64 m2,.slice la ln lc] 44):=⟨_,rfl⟩
   rw[←hWa]
   have h4a:Below W4.heap.size W4 Wa:=by rw[hWa];exact bA _ _
   have hva:Wa.heap[W4.heap.size]?=some (.cells #[.string u0,.string u1,.int .i64 m2,.slice la ln lc] 44 (0,0)):=by rw[hWa];exact heap_alloc_new _ _
   have hl7:W4.heap.size<Wa.heap.size:=by rw[hWa];simp
   have hs3:=HB3.out.size
   have hs4:=HQ4.out.2.size
   have hbw:w.heap.size≠bp:=by omega
   have hb7:W4.heap.size≠bp:=by omega
   have h3a:∀q,q<W3.heap.size→q≠bp→Wa.heap[q]?=W3.heap[q]?:=fun q hq hne=>(h4a.block q (by omega)).trans (HQ4.out.2.block q hq hne)
   have hlw:w.heap.size<Wa.heap.size:=by omega
   have hlg:g2<Wa.heap.size:=by omega
   have HA:=aA (aI ((h3a w.heap.size (by omega) hbw).trans HR3.out) (aI ((h3a g2 hl3 hgb).trans HV3.out) (aI hva (aI (((Below.x HB3.out bp (nR _)).then HQ4.out.2 HB3.out.size).then (Below.x h4a bp (nR _)) (by omega)) ((HQ4.out.1.below h4a).to (V':=fun x=>NL Wa (fun b=>w.heap.size<b) (nv (.string u0) (.string u1) (.int .i64 m2) (.slice la ln lc)) x) fun x _ _ _ hx=>hx.step fun b hb hp=>⟨h4a.block b hb,by omega⟩)))))
   clear hWa h4a hva h3a hs3 hs4 HQ4 HSa c0 c1 c2 c3 cf
   generalize W4.heap.size=g7 at *
   cases hA:IB L f k n with
   |out=>exact absurd hA HnA.out
   |bad c a=>
    have hRb:R=.bad c a:=by rw[HRo.out,hA];rfl
    have HPb:Hid (PBad L bp tb cp Wa c a):=by have h9:=HA.out.2.2.2.2;rw[hA] at h9;exact h9
    have HSe:=aA (EG HPb.out)
    have HW:=aA (fun (W:World) (hW:Below Wa.heap.size Wa W)=>gF (r:=(.bad c a:PR Unit)) (V:=fun _=>True) (HPb.out.below hW) (by intro h;cases h))
    have HRb:=aA hRb
    clear hRb hA
    go_wp2_with (first|(go_at_call 30;refine HSe.out.mono ?_;rintro e W5 ⟨rfl,hB50⟩;have hB5:=hB50.alloc hB50.size (.cells #[.string ⟨#[120]⟩,.string ⟨#[]⟩,.int .i64 0,.int .i64 0] 82);obtain⟨q0,q1,q2,q3,qf⟩:=gA HA.out.1 (hB5.block _ hlw);obtain⟨i0,i1,i2,i3,if'⟩:=gA HA.out.2.1 (hB5.block _ hlg);obtain⟨v0,v1,v2,v3,vf⟩:=gA HA.out.2.2.1 (hB5.block _ hl7);have HQ5:=aA hB5;clear hB5 hB50)|(go_at_call 32;refine(HW.out _ HQ5.out).mono ?_;rintro e W6 ⟨rfl,hP6,hB6⟩;obtain⟨r0,r1,r2,r3,rf⟩:=gA HA.out.1 ((hB6.block _ (Nat.lt_of_lt_of_le hlw HQ5.out.size) hbw).trans (HQ5.out.block _ hlw));obtain⟨z0,z1,z2,z3,zf⟩:=gA HA.out.2.2.1 ((hB6.block _ (Nat.lt_of_lt_of_le hl7 HQ5.out.size) hb7).trans (HQ5.out.block _ hl7));have HQ6:=aA (aI hP6 hB6);clear hP6 hB6))
    all_goals first
     |(refine bodyPost_ret (v:=.agg #[.string u0,.string u1,.int .i64 m2,.slice la ln lc]) (by simp[results,Tryz.results147,go_sem,r0,r1,r2,r3]) rfl ?_;refine vB hbp htb (P:=fun b=>w.heap.size<b) ?_ (fun b hb=>hb) ((HA.out.2.2.2.1.then (Below.x HQ5.out bp (nR _)) HA.out.2.2.2.1.size).then HQ6.out.2 (Nat.le_trans HA.out.2.2.2.1.size HQ5.out.size));rw[HRb.out];exact HQ6.out.1)
     |(refine bodyPost_ret (v:=.agg #[.string u0,.string u1,.int .i64 m2,.slice la ln lc]) (by simp[results,Tryz.results147,go_sem,q0,q1,q2,q3]) rfl ?_;refine vB hbp htb (P:=fun b=>w.heap.size<b) ?_ (fun b hb=>hb) (HA.out.2.2.2.1.then (Below.x HQ5.out bp (nR _)) HA.out.2.2.2.1.size);rw[HRb.out];exact PBad.below HPb.out HQ5.out)
   |ok x k1 n1=>
    have h9:=HA.out.2.2.2.2
    rw[hA] at h9
    have HPo:=aA h9.1
    have HNx:=aA h9.2
    have HU:Hid (u0=x.kind∧u1=x.word):=by
     have h8:=HNx.out
     cases h8 with
     |mk _ _ _ _ _ h0 h1 _ _ _ _ _=>
      have h0:Value.string u0=.string x.kind:=h0
      have h1:Value.string u1=.string x.word:=h1
      injection h0 with h0
      injection h1 with h1
      exact⟨h0,h1⟩
    have HR1:Hid (R=if (cA L k1).kind=.s∧iA ordersW (cA L k1).text≠none then (pA L k1 n1).bind fun _ k2 n=>(IB L f k2 n).bind fun b k3 n=>.ok (.mk (cA L k1).text ⟨#[]⟩ 0 [x,b]) k3 n
     else if vA x.kind qB=true∧vA K1 x.word=true then .ok x k1 n1 else RC L k1):=by show _=_;rw[HRo.out,hA];rfl
    have HSe:=aA (RD HPo.out.s HPo.out.nb)
    have HW:=aA (fun (W:World) (hW:Below Wa.heap.size Wa W)=>gF (r:=(.ok () k1 n1:PR Unit)) (V:=fun _=>True) ⟨HPo.out.below hW,trivial⟩ (by intro h;cases h))
    have HAm:=aA (fun (g:Nat) (W:World) hW=>zF ordersW g 0 6 W hW (by decide) (cA L k1).text)
    have hgl:ordersW.length=6:=rfl
    rw[hgl] at HAm
    unfold sI at HSe
    clear h9 hA hgl
    by_cases hkd:(cA L k1).kind=.s
    ·have hk:((kB (cA L k1).kind).toList==[115])=true:=by rw[hkd,Lib.toList_data];decide
     have HPl:=aA (plcI_neg (ls:=ordersW) (s:=(cA L k1).text))
     by_cases hp:aD ordersW (cA L k1).text<0
     ·have hC:¬((cA L k1).kind=.s∧iA ordersW (cA L k1).text≠none):=fun e=>e.2 (HPl.out.1 hp)
      have hpd:decide ((0:Int)≤aD ordersW (cA L k1).text)=false:=by simp;omega
      clear HPl
      generalize kB (cA L k1).kind=J0 at HSe hk
      generalize hpl:aD ordersW (cA L k1).text=pl at HAm hp hpd
      generalize hJ1:(cA L k1).text=J1 at HSe HAm
      generalize (cA L k1).pos=J2 at HSe
      generalize (cA L k1).code=J3 at HSe
      clear hJ1 hpl hkd
      cases d1:(u0.toList==[110,97,109,101])
      ·have hRf:R=RC L k1:=by
        rw[HR1.out,if_neg hC,if_neg (fun e=>by rw[←HU.out.1] at e;have h9:=(CD u0 [110,97,109,101]).symm.trans e.1;rw[d1] at h9;cases h9)]
       clear hC
       go_upto_region 26 with (first|(go_at_call 30;refine HSe.out.mono ?_;rintro e W5 ⟨rfl,hB5⟩;have HB5:=aA hB5;clear hB5)|(go_at_call 28;refine(HAm.out _ _ ?_).mono ?_;(·intro i s hs;have h9:=tD (W5.alloc (.cells #[.string J0,.string J1,.int .i64 J2,.int .i64 J3] 82)) ordersW 9 i s hs;rw[show (W5.alloc (.cells #[.string J0,.string J1,.int .i64 J2,.int .i64 J3] 82)).heap.size=W5.heap.size+1 by simp] at h9;exact h9);rintro e w' ⟨rfl,rfl⟩))
       have HQ5:Hid (Below Wa.heap.size Wa ((W5.alloc (.cells #[.string J0,.string J1,.int .i64 J2,.int .i64 J3] 82)).alloc (.cells #[.string ⟨#[60]⟩,.string ⟨#[60,61]⟩,.string ⟨#[61]⟩,.string ⟨#[60,62]⟩,.string ⟨#[62,61]⟩,.string ⟨#[62]⟩] 9))):=(HB5.out.alloc HB5.out.size _).alloc (by have:=HB5.out.size;simp;omega) _
       generalize (W5.alloc (.cells #[.string J0,.string J1,.int .i64 J2,.int .i64 J3] 82)).alloc (.cells #[.string ⟨#[60]⟩,.string ⟨#[60,61]⟩,.string ⟨#[61]⟩,.string ⟨#[60,62]⟩,.string ⟨#[62,61]⟩,.string ⟨#[62]⟩] 9)=Wz at *
       obtain⟨q0,q1,q2,q3,qf⟩:=gA HA.out.1 (HQ5.out.block _ hlw)
       obtain⟨i0,i1,i2,i3,if'⟩:=gA HA.out.2.1 (HQ5.out.block _ hlg)
       obtain⟨v0,v1,v2,v3,vf⟩:=gA HA.out.2.2.1 (HQ5.out.block _ hl7)
       go_wp2_with (go_at_call 32;refine(HW.out _ HQ5.out).mono ?_;rintro e W6 ⟨rfl,hP6,hB6⟩;obtain⟨r0,r1,r2,r3,rf⟩:=gA HA.out.1 ((hB6.block _ (Nat.lt_of_lt_of_le hlw HQ5.out.size) hbw).trans (HQ5.out.block _ hlw));obtain⟨z0,z1,z2,z3,zf⟩:=gA HA.out.2.2.1 ((hB6.block _ (Nat.lt_of_lt_of_le hl7 HQ5.out.size) hb7).trans (HQ5.out.block _ hl7));have HQ6:=aA (aI hP6 hB6);clear hP6 hB6)
       refine bodyPost_ret (v:=.agg #[.string u0,.string u1,.int .i64 m2,.slice la ln lc]) (by simp[results,Tryz.results147,go_sem,r0,r1,r2,r3]) rfl ?_
       refine vB hbp htb (P:=fun b=>w.heap.size<b) ?_ (fun b hb=>hb) ((HA.out.2.2.2.1.then (Below.x HQ5.out bp (nR _)) HA.out.2.2.2.1.size).then HQ6.out.2 (Nat.le_trans HA.out.2.2.2.1.size HQ5.out.size))
       rw[hRf]
       exact HQ6.out.1
      ·cases d2:(K1.toList==u1.toList)
       ·have hRf:R=RC L k1:=by
         rw[HR1.out,if_neg hC,if_neg (fun e=>by rw[←HU.out.2] at e;have h9:(K1.toList==u1.toList)=true:=e.2;rw[d2] at h9;cases h9)]
        clear hC
        go_upto_region 26 with (first|(go_at_call 30;refine HSe.out.mono ?_;rintro e W5 ⟨rfl,hB5⟩;have HB5:=aA hB5;clear hB5)|(go_at_call 28;refine(HAm.out _ _ ?_).mono ?_;(·intro i s hs;have h9:=tD (W5.alloc (.cells #[.string J0,.string J1,.int .i64 J2,.int .i64 J3] 82)) ordersW 9 i s hs;rw[show (W5.alloc (.cells #[.string J0,.string J1,.int .i64 J2,.int .i64 J3] 82)).heap.size=W5.heap.size+1 by simp] at h9;exact h9);rintro e w' ⟨rfl,rfl⟩))
        have HQ5:Hid (Below Wa.heap.size Wa ((W5.alloc (.cells #[.string J0,.string J1,.int .i64 J2,.int .i64 J3] 82)).alloc (.cells #[.string ⟨#[60]⟩,.string ⟨#[60,61]⟩,.string ⟨#[61]⟩,.string ⟨#[60,62]⟩,.string ⟨#[62,61]⟩,.string ⟨#[62]⟩] 9))):=(HB5.out.alloc HB5.out.size _).alloc (by have:=HB5.out.size;simp;omega) _
        generalize (W5.alloc (.cells #[.string J0,.string J1,.int .i64 J2,.int .i64 J3] 82)).alloc (.cells #[.string ⟨#[60]⟩,.string ⟨#[60,61]⟩,.string ⟨#[61]⟩,.string ⟨#[60,62]⟩,.string ⟨#[62,61]⟩,.string ⟨#[62]⟩] 9)=Wz at *
        obtain⟨q0,q1,q2,q3,qf⟩:=gA HA.out.1 (HQ5.out.block _ hlw)
        obtain⟨i0,i1,i2,i3,if'⟩:=gA HA.out.2.1 (HQ5.out.block _ hlg)
        obtain⟨v0,v1,v2,v3,vf⟩:=gA HA.out.2.2.1 (HQ5.out.block _ hl7)
        go_wp2_with (go_at_call 32;refine(HW.out _ HQ5.out).mono ?_;rintro e W6 ⟨rfl,hP6,hB6⟩;obtain⟨r0,r1,r2,r3,rf⟩:=gA HA.out.1 ((hB6.block _ (Nat.lt_of_lt_of_le hlw HQ5.out.size) hbw).trans (HQ5.out.block _ hlw));obtain⟨z0,z1,z2,z3,zf⟩:=gA HA.out.2.2.1 ((hB6.block _ (Nat.lt_of_lt_of_le hl7 HQ5.out.size) hb7).trans (HQ5.out.block _ hl7));have HQ6:=aA (aI hP6 hB6);clear hP6 hB6)
        refine bodyPost_ret (v:=.agg #[.string u0,.string u1,.int .i64 m2,.slice la ln lc]) (by simp[results,Tryz.results147,go_sem,r0,r1,r2,r3]) rfl ?_
        refine vB hbp htb (P:=fun b=>w.heap.size<b) ?_ (fun b hb=>hb) ((HA.out.2.2.2.1.then (Below.x HQ5.out bp (nR _)) HA.out.2.2.2.1.size).then HQ6.out.2 (Nat.le_trans HA.out.2.2.2.1.size HQ5.out.size))
        rw[hRf]
        exact HQ6.out.1
       ·have hRf:R=.ok x k1 n1:=by
         rw[HR1.out,if_neg hC,if_pos ⟨by rw[←HU.out.1];exact(CD _ [110,97,109,101]).trans d1,by rw[←HU.out.2];exact d2⟩]
        clear hC
        go_upto_region 26 with (first|(go_at_call 30;refine HSe.out.mono ?_;rintro e W5 ⟨rfl,hB5⟩;have HB5:=aA hB5;clear hB5)|(go_at_call 28;refine(HAm.out _ _ ?_).mono ?_;(·intro i s hs;have h9:=tD (W5.alloc (.cells #[.string J0,.string J1,.int .i64 J2,.int .i64 J3] 82)) ordersW 9 i s hs;rw[show (W5.alloc (.cells #[.string J0,.string J1,.int .i64 J2,.int .i64 J3] 82)).heap.size=W5.heap.size+1 by simp] at h9;exact h9);rintro e w' ⟨rfl,rfl⟩))
        have HQ5:Hid (Below Wa.heap.size Wa ((W5.alloc (.cells #[.string J0,.string J1,.int .i64 J2,.int .i64 J3] 82)).alloc (.cells #[.string ⟨#[60]⟩,.string ⟨#[60,61]⟩,.string ⟨#[61]⟩,.string ⟨#[60,62]⟩,.string ⟨#[62,61]⟩,.string ⟨#[62]⟩] 9))):=(HB5.out.alloc HB5.out.size _).alloc (by have:=HB5.out.size;simp;omega) _
        generalize (W5.alloc (.cells #[.string J0,.string J1,.int .i64 J2,.int .i64 J3] 82)).alloc (.cells #[.string ⟨#[60]⟩,.string ⟨#[60,61]⟩,.string ⟨#[61]⟩,.string ⟨#[60,62]⟩,.string ⟨#[62,61]⟩,.string ⟨#[62]⟩] 9)=Wz at *
        obtain⟨q0,q1,q2,q3,qf⟩:=gA HA.out.1 (HQ5.out.block _ hlw)
        obtain⟨i0,i1,i2,i3,if'⟩:=gA HA.out.2.1 (HQ5.out.block _ hlg)
        obtain⟨v0,v1,v2,v3,vf⟩:=gA HA.out.2.2.1 (HQ5.out.block _ hl7)
        go_wp2
        refine bodyPost_ret (v:=.agg #[.string u0,.string u1,.int .i64 m2,.slice la ln lc]) (by simp[results,Tryz.results147,go_sem,q0,q1,q2,q3]) rfl ?_
        refine vB hbp htb (P:=fun b=>w.heap.size<b) ?_ (fun b hb=>hb) (HA.out.2.2.2.1.then (Below.x HQ5.out bp (nR _)) HA.out.2.2.2.1.size)
        rw[hRf]
        exact⟨HPo.out.below HQ5.out,HNx.out.step fun b hb hp=>⟨HQ5.out.block b hb,hp⟩⟩
     ·have hpd:decide ((0:Int)≤aD ordersW (cA L k1).text)=true:=by simp;omega
      have hC:(cA L k1).kind=.s∧iA ordersW (cA L k1).text≠none:=⟨hkd,fun e=>hp (HPl.out.2 e)⟩
      obtain⟨rB,hrB⟩:∃rB,rB=((pA L k1 n1).bind fun _ k n=>IB L f k n):=⟨_,rfl⟩
      have hR2:R=rB.bind fun b k n=>.ok (Nd.mk (cA L k1).text ⟨#[]⟩ 0 [x,b]) k n:=by
       rw[HR1.out,if_pos hC,hrB,PR.assoc]
      have hnB:rB≠.out:=PR.bind_not (hR2▸HN.out)
      have HSt:=aA (fun (W:World) (hW:Below Wa.heap.size Wa W)=>SD (HPo.out.below hW))
      have HSb:=aA (fun (W:World) (hW:PSt L bp tb cp W (pA L k1 n1) (fun _=>True))=>QC H2.out (fun _ _ _ h=>GG h) hW (hrB▸hnB))
      rw[←hrB] at HSb
      have HR2:=aA hR2
      clear HPl hC hR2 hnB hrB
      generalize kB (cA L k1).kind=J0 at HSe hk
      generalize hpl:aD ordersW (cA L k1).text=pl at HAm hp hpd
      generalize hJ1:(cA L k1).text=J1 at HSe HAm
      have HJ1:=aA hJ1
      generalize (cA L k1).pos=J2 at HSe
      generalize (cA L k1).code=J3 at HSe
      clear hJ1 hpl hkd
      go_upto_region 25 with (first|(go_at_call 30;refine HSe.out.mono ?_;rintro e W5 ⟨rfl,hB5⟩;have HB5:=aA hB5;clear hB5)|(go_at_call 28;refine(HAm.out _ _ ?_).mono ?_;(·intro i s hs;have h9:=tD (W5.alloc (.cells #[.string J0,.string J1,.int .i64 J2,.int .i64 J3] 82)) ordersW 9 i s hs;rw[show (W5.alloc (.cells #[.string J0,.string J1,.int .i64 J2,.int .i64 J3] 82)).heap.size=W5.heap.size+1 by simp] at h9;exact h9);rintro e w' ⟨rfl,rfl⟩)|(go_at_call 110;refine(HSt.out _ ((HB5.out.alloc HB5.out.size _).alloc (by have:=HB5.out.size;simp;omega) _)).mono ?_;rintro e W6 ⟨rfl,hP6,hB6⟩;have HQ6:=aA (aI hP6 hB6);clear hP6 hB6)|(go_at_call 67;refine(HSb.out _ HQ6.out.1).mono ?_;rintro e W7 ⟨⟨w0,w1,p2,oa,on,oc,rfl,hP7⟩,hB7⟩;have HQ7:=aA (aI hP7 hB7);clear hP7 hB7))
      have HQ5:Hid (Below Wa.heap.size Wa ((W5.alloc (.cells #[.string J0,.string J1,.int .i64 J2,.int .i64 J3] 82)).alloc (.cells #[.string ⟨#[60]⟩,.string ⟨#[60,61]⟩,.string ⟨#[61]⟩,.string ⟨#[60,62]⟩,.string ⟨#[62,61]⟩,.string ⟨#[62]⟩] 9))):=(HB5.out.alloc HB5.out.size _).alloc (by have:=HB5.out.size;simp;omega) _
      have hvt:((W5.alloc (.cells #[.string J0,.string J1,.int .i64 J2,.int .i64 J3] 82)).alloc (.cells #[.string ⟨#[60]⟩,.string ⟨#[60,61]⟩,.string ⟨#[61]⟩,.string ⟨#[60,62]⟩,.string ⟨#[62,61]⟩,.string ⟨#[62]⟩] 9)).heap[W5.heap.size]?=some (.cells #[.string J0,.string J1,.int .i64 J2,.int .i64 J3] 82 (0,0)):=(((Below.refl (W5.alloc (.cells #[.string J0,.string J1,.int .i64 J2,.int .i64 J3] 82)).heap.size (W5.alloc (.cells #[.string J0,.string J1,.int .i64 J2,.int .i64 J3] 82))).alloc (nR _) _).block W5.heap.size (by simp)).trans (heap_alloc_new _ _)
      have hlt5:W5.heap.size<((W5.alloc (.cells #[.string J0,.string J1,.int .i64 J2,.int .i64 J3] 82)).alloc (.cells #[.string ⟨#[60]⟩,.string ⟨#[60,61]⟩,.string ⟨#[61]⟩,.string ⟨#[60,62]⟩,.string ⟨#[62,61]⟩,.string ⟨#[62]⟩] 9)).heap.size:=by simp;omega
      generalize (W5.alloc (.cells #[.string J0,.string J1,.int .i64 J2,.int .i64 J3] 82)).alloc (.cells #[.string ⟨#[60]⟩,.string ⟨#[60,61]⟩,.string ⟨#[61]⟩,.string ⟨#[60,62]⟩,.string ⟨#[62,61]⟩,.string ⟨#[62]⟩] 9)=Wz at *
      obtain⟨Wb,hWb⟩:∃Wb,Wb=W7.alloc (.cells #[.string w0,.string w1,.int .i64 p2,.slice oa on oc] 44):=⟨_,rfl⟩
      rw[←hWb]
      have h7b:Below W7.heap.size W7 Wb:=by rw[hWb];exact bA _ _
      have hvb:Wb.heap[W7.heap.size]?=some (.cells #[.string w0,.string w1,.int .i64 p2,.slice oa on oc] 44 (0,0)):=by rw[hWb];exact heap_alloc_new _ _
      have hlb:W7.heap.size<Wb.heap.size:=by rw[hWb];simp
      have hs5:=HQ5.out.size
      have hs6:=HQ6.out.2.size
      have hs7:=HQ7.out.2.size
      have hs50:=HB5.out.size
      have hzb:∀q,q<Wz.heap.size→q≠bp→Wb.heap[q]?=Wz.heap[q]?:=fun q hq hne=>((h7b.block q (by omega)).trans (HQ7.out.2.block q (by omega) hne)).trans (HQ6.out.2.block q hq hne)
      have hab:∀q,q<Wa.heap.size→q≠bp→Wb.heap[q]?=Wa.heap[q]?:=fun q hq hne=>(hzb q (by omega) hne).trans (HQ5.out.block q hq)
      have hrb:=(hab _ hlw hbw).trans HA.out.1
      obtain⟨q0,q1,q2,q3,qf⟩:=tA hrb
      obtain⟨v0,v1,v2,v3,vf⟩:=tA ((hab _ hl7 hb7).trans HA.out.2.2.1)
      obtain⟨i0,i1,i2,i3,if'⟩:=tA ((hzb _ hlt5 (by omega)).trans hvt)
      obtain⟨o0,o1,o2,o3,of'⟩:=tA hvb
      have hlwb:w.heap.size<Wb.heap.size:=by omega
      have hl5b:W5.heap.size<Wb.heap.size:=by omega
      have hl7b:g7<Wb.heap.size:=by omega
      have HF:=aA (fQ (L:=L) (bp:=bp) (tb:=tb) (cp:=cp) (x:=x) (P:=fun b=>w.heap.size<b) (r:=rB) (a0:=.string u0) (a1:=.string u1) (a2:=.int .i64 m2) (a3:=.slice la ln lc) (b0:=.string w0) (b1:=.string w1) (b2:=.int .i64 p2) (b3:=.slice oa on oc) hbp htb hrb ((HQ7.out.1.below h7b).to fun y _ _ _ hy=>hy.step fun b hb hp=>⟨h7b.block b hb,by omega⟩) (fun _ _ _ _=>HNx.out.step fun b hb hp=>⟨hab b hb (by omega),hp⟩) (fun b hb=>hb) (((HA.out.2.2.2.1.then (Below.x HQ5.out bp (nR _)) HA.out.2.2.2.1.size).then HQ6.out.2 (Nat.le_trans HA.out.2.2.2.1.size hs5)).then HQ7.out.2 (Nat.le_trans HA.out.2.2.2.1.size (by omega))|>.then (Below.x h7b bp (nR _)) (Nat.le_trans HA.out.2.2.2.1.size (by omega))) hlwb J1)
      have HRb:=aA hrb
      clear hWb h7b hvb hzb hab hvt hrb hs5 hs6 hs7 hs50
      go_wp2
      have hx:=tA (MH HRb.out (.string J1) (.string ⟨#[]⟩) (.int .i64 0) (.string u0) (.string u1) (.int .i64 m2) (.slice la ln lc) (.string w0) (.string w1) (.int .i64 p2) (.slice oa on oc)).var
      unfold zI at hx
      obtain⟨x0,x1,x2,x3,_⟩:=hx
      refine bodyPost_ret (v:=.agg #[.string J1,.string ⟨#[]⟩,.int .i64 0,.slice (some ⟨Wb.heap.size,0,none⟩) 2 2]) (by simp[results,Tryz.results147,go_sem,x0,x1,x2,x3]) rfl ?_
      have h9:=HF.out
      rw[HR2.out,HJ1.out]
      exact h9
    ·have hC:¬((cA L k1).kind=.s∧iA ordersW (cA L k1).text≠none):=fun e=>hkd e.1
     have hk:((kB (cA L k1).kind).toList==[115])=false:=by
      cases h2:(cA L k1).kind<;>first|exact absurd h2 hkd|(rw[Lib.toList_data];decide)
     generalize kB (cA L k1).kind=J0 at HSe hk
     generalize hJ1:(cA L k1).text=J1 at HSe
     generalize (cA L k1).pos=J2 at HSe
     generalize (cA L k1).code=J3 at HSe
     clear hJ1 hkd HAm
     cases d1:(u0.toList==[110,97,109,101])
     ·have hRf:R=RC L k1:=by
       rw[HR1.out,if_neg hC,if_neg (fun e=>by rw[←HU.out.1] at e;have h9:=(CD u0 [110,97,109,101]).symm.trans e.1;rw[d1] at h9;cases h9)]
      clear hC
      go_upto_region 26 with (go_at_call 30;refine HSe.out.mono ?_;rintro e W5 ⟨rfl,hB5⟩;have HB5:=aA hB5;clear hB5)
      have HQ5:Hid (Below Wa.heap.size Wa (W5.alloc (.cells #[.string J0,.string J1,.int .i64 J2,.int .i64 J3] 82))):=HB5.out.alloc HB5.out.size _
      generalize W5.alloc (.cells #[.string J0,.string J1,.int .i64 J2,.int .i64 J3] 82)=Wz at *
      obtain⟨q0,q1,q2,q3,qf⟩:=gA HA.out.1 (HQ5.out.block _ hlw)
      obtain⟨i0,i1,i2,i3,if'⟩:=gA HA.out.2.1 (HQ5.out.block _ hlg)
      obtain⟨v0,v1,v2,v3,vf⟩:=gA HA.out.2.2.1 (HQ5.out.block _ hl7)
      go_wp2_with (go_at_call 32;refine(HW.out _ HQ5.out).mono ?_;rintro e W6 ⟨rfl,hP6,hB6⟩;obtain⟨r0,r1,r2,r3,rf⟩:=gA HA.out.1 ((hB6.block _ (Nat.lt_of_lt_of_le hlw HQ5.out.size) hbw).trans (HQ5.out.block _ hlw));obtain⟨z0,z1,z2,z3,zf⟩:=gA HA.out.2.2.1 ((hB6.block _ (Nat.lt_of_lt_of_le hl7 HQ5.out.size) hb7).trans (HQ5.out.block _ hl7));have HQ6:=aA (aI hP6 hB6);clear hP6 hB6)
      refine bodyPost_ret (v:=.agg #[.string u0,.string u1,.int .i64 m2,.slice la ln lc]) (by simp[results,Tryz.results147,go_sem,r0,r1,r2,r3]) rfl ?_
      refine vB hbp htb (P:=fun b=>w.heap.size<b) ?_ (fun b hb=>hb) ((HA.out.2.2.2.1.then (Below.x HQ5.out bp (nR _)) HA.out.2.2.2.1.size).then HQ6.out.2 (Nat.le_trans HA.out.2.2.2.1.size HQ5.out.size))
      rw[hRf]
      exact HQ6.out.1
     ·cases d2:(K1.toList==u1.toList)
      ·have hRf:R=RC L k1:=by
        rw[HR1.out,if_neg hC,if_neg (fun e=>by rw[←HU.out.2] at e;have h9:(K1.toList==u1.toList)=true:=e.2;rw[d2] at h9;cases h9)]
       clear hC
       go_upto_region 26 with (go_at_call 30;refine HSe.out.mono ?_;rintro e W5 ⟨rfl,hB5⟩;have HB5:=aA hB5;clear hB5)
       have HQ5:Hid (Below Wa.heap.size Wa (W5.alloc (.cells #[.string J0,.string J1,.int .i64 J2,.int .i64 J3] 82))):=HB5.out.alloc HB5.out.size _
       generalize W5.alloc (.cells #[.string J0,.string J1,.int .i64 J2,.int .i64 J3] 82)=Wz at *
       obtain⟨q0,q1,q2,q3,qf⟩:=gA HA.out.1 (HQ5.out.block _ hlw)
       obtain⟨i0,i1,i2,i3,if'⟩:=gA HA.out.2.1 (HQ5.out.block _ hlg)
       obtain⟨v0,v1,v2,v3,vf⟩:=gA HA.out.2.2.1 (HQ5.out.block _ hl7)
       go_wp2_with (go_at_call 32;refine(HW.out _ HQ5.out).mono ?_;rintro e W6 ⟨rfl,hP6,hB6⟩;obtain⟨r0,r1,r2,r3,rf⟩:=gA HA.out.1 ((hB6.block _ (Nat.lt_of_lt_of_le hlw HQ5.out.size) hbw).trans (HQ5.out.block _ hlw));obtain⟨z0,z1,z2,z3,zf⟩:=gA HA.out.2.2.1 ((hB6.block _ (Nat.lt_of_lt_of_le hl7 HQ5.out.size) hb7).trans (HQ5.out.block _ hl7));have HQ6:=aA (aI hP6 hB6);clear hP6 hB6)
       refine bodyPost_ret (v:=.agg #[.string u0,.string u1,.int .i64 m2,.slice la ln lc]) (by simp[results,Tryz.results147,go_sem,r0,r1,r2,r3]) rfl ?_
       refine vB hbp htb (P:=fun b=>w.heap.size<b) ?_ (fun b hb=>hb) ((HA.out.2.2.2.1.then (Below.x HQ5.out bp (nR _)) HA.out.2.2.2.1.size).then HQ6.out.2 (Nat.le_trans HA.out.2.2.2.1.size HQ5.out.size))
       rw[hRf]
       exact HQ6.out.1
      ·have hRf:R=.ok x k1 n1:=by
        rw[HR1.out,if_neg hC,if_pos ⟨by rw[←HU.out.1];exact(CD _ [110,97,109,101]).trans d1,by rw[←HU.out.2];exact d2⟩]
       clear hC
       go_upto_region 26 with (go_at_call 30;refine HSe.out.mono ?_;rintro e W5 ⟨rfl,hB5⟩;have HB5:=aA hB5;clear hB5)
       have HQ5:Hid (Below Wa.heap.size Wa (W5.alloc (.cells #[.string J0,.string J1,.int .i64 J2,.int .i64 J3] 82))):=HB5.out.alloc HB5.out.size _
       generalize W5.alloc (.cells #[.string J0,.string J1,.int .i64 J2,.int .i64 J3] 82)=Wz at *
       obtain⟨q0,q1,q2,q3,qf⟩:=gA HA.out.1 (HQ5.out.block _ hlw)
       obtain⟨i0,i1,i2,i3,if'⟩:=gA HA.out.2.1 (HQ5.out.block _ hlg)
       obtain⟨v0,v1,v2,v3,vf⟩:=gA HA.out.2.2.1 (HQ5.out.block _ hl7)
       go_wp2
       refine bodyPost_ret (v:=.agg #[.string u0,.string u1,.int .i64 m2,.slice la ln lc]) (by simp[results,Tryz.results147,go_sem,q0,q1,q2,q3]) rfl ?_
       refine vB hbp htb (P:=fun b=>w.heap.size<b) ?_ (fun b hb=>hb) (HA.out.2.2.2.1.then (Below.x HQ5.out bp (nR _)) HA.out.2.2.2.1.size)
       rw[hRf]
       exact⟨HPo.out.below HQ5.out,HNx.out.step fun b hb hp=>⟨HQ5.out.block b hb,hp⟩⟩
end Go.Proofs.YtehbinobohjadaaGreatDoor

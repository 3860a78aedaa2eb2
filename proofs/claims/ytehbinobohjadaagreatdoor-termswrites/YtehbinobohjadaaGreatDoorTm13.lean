import Derived.Test.YtehbinobohjadaaGreatDoorTm00
import Derived.Test.YtehbinobohjadaaGreatDoorTm12
set_option maxHeartbeats 20000000
set_option maxRecDepth 20000
namespace Go.Proofs.YtehbinobohjadaaGreatDoor
open Go.RowKit Go.Extern.Stop Go.Stop Go.Extern
theorem IR{L:List Tok}{bp tb cp f:Nat}(h1:∀f',f'≤f→OD L bp tb cp 113 (FC L f')):OD L bp tb cp 67 (IB L (f+1)):=by
 intro w k n h hn
 have hR0:IB L (f+1) k n=(FC L f k n).bind fun x k n=>FB L f x k n:=by rw[IB]
 rw[hR0] at hn ⊢
 have hbp:=h.s.in
 have htb:=h.s.tin
 obtain⟨R,hR⟩:∃R,R=(FC L f k n).bind fun x k n=>FB L f x k n:=⟨_,rfl⟩
 rw[←hR] at hn ⊢
 obtain⟨W1,hW1⟩:∃W1,W1=w.alloc (.cells #[.string ⟨#[]⟩,.string ⟨#[]⟩,.int .i64 0,.slice none 0 0] 44):=⟨_,rfl⟩
 have hst:Start w W1:=by rw[hW1];exact Start.new w
 have hlt:=hst.lt
 have HF:=aA (h1 f (nR _) W1 k n (h.below hst.bel) (PR.bind_not (hR▸hn)))
 have H1:=aA h1
 have HX:=aA hW1
 have HT:=aA hst
 have HR:=aA hR
 have HN:=aA hn
 clear h hW1 hst hR0 h1 hR hn
 go_enter Tryz.func67,Tryz.ntmps67
 go_wp2_with (rw[←HX.out];go_at_call 113;refine HF.out.mono ?_;rintro e W2 ⟨⟨s0,s1,n2,ka,kn,kc,rfl,hP2⟩,hB2⟩;have HQ:=aA (aI hP2 hB2);clear hP2 hB2)
 obtain⟨W3,hW3⟩:∃W3,W3=W2.alloc (.cells #[.string s0,.string s1,.int .i64 n2,.slice ka kn kc] 44):=⟨_,rfl⟩
 have h23:Below W2.heap.size W2 W3:=by rw[hW3];exact bA _ _
 have hl3:W2.heap.size<W3.heap.size:=by rw[hW3];simp
 have HS0:Hid (LoopAt L bp tb cp w R (FB L) f W2.heap.size f W3):=by
  refine .mk f (FC L f k n) s0 s1 n2 ka kn kc (nR _) (nR _) ((HQ.out.1.below h23).to fun x k n _ hx=>hx.step fun b hb hp=>⟨h23.block b hb,by omega,by omega⟩) (PR.bind_not (HR.out▸HN.out)) HR.out.symm (by rw[hW3];exact heap_alloc_new _ _) (((h23.block _ (Nat.lt_of_lt_of_le hlt HQ.out.2.size)).trans (HQ.out.2.block _ hlt (by omega))).trans HT.out.blk) (((Below.x HT.out.bel bp (nR _)).then HQ.out.2 HT.out.bel.size).then (Below.x h23 bp (nR _)) (Nat.le_trans HT.out.bel.size HQ.out.2.size)) (Nat.lt_of_lt_of_le hlt HQ.out.2.size) hl3
 rw[←hW3]
 clear hW3 h23 hl3 HX HT hlt
 generalize W2.heap.size=g3 at *
 clear HQ HF
 go_loopg [] f (fun g wr=>LoopAt L bp tb cp w R (FB L) f g3 g wr)
 case atStart=>exact HS0.out
 case round=>
  clear HS0 HR
  cases hrel with
  |mk f' r s0 s1 n2 ka kn kc hg hF hs hr hR hc hq hB h3 h4=>
  have hb3:g3≠bp:=by omega
  have hb4:w.heap.size≠bp:=by omega
  have hl4:w.heap.size<wr.heap.size:=by omega
  have HC:=aA hc
  have HQr:=aA hq
  have HB:=aA hB
  have HGg:=aA hg
  clear hc hq hB hg
  cases r with
  |out=>exact absurd rfl hr
  |bad c a=>
   have HTk:=aA (EG hs)
   have HS:=aA hs
   have hRb:R=.bad c a:=hR.symm
   subst hRb
   clear hs hr hR
   go_wp2_with (go_at_call 30;refine HTk.out.mono ?_;rintro e W4 ⟨rfl,hB40⟩;have hB4:=hB40.alloc hB40.size (.cells #[.string ⟨#[120]⟩,.string ⟨#[]⟩,.int .i64 0,.int .i64 0] 82);obtain⟨q0,q1,q2,q3,qf⟩:=gA HQr.out (hB4.block _ hl4);obtain⟨m0,m1,m2,m3,mf⟩:=gA HC.out (hB4.block _ h4);have HQ4:=aA hB4;clear hB4 hB40)
   refine bodyPost_ret (v:=.agg #[.string s0,.string s1,.int .i64 n2,.slice ka kn kc]) (by simp[results,Tryz.results67,go_sem,q0,q1,q2,q3]) rfl ?_
   exact vB hbp htb (R:=.bad c a) (P:=fun b=>w.heap.size<b) (PBad.below HS.out HQ4.out) (fun b hb=>hb) (HB.out.then (Below.x HQ4.out bp (nR _)) HB.out.size)
  |ok x k1 n1=>
   cases f' with
   |zero=>exact absurd (hR.symm.trans (by show FB L 0 x k1 n1=.out;rw[FB])) HN.out
   |succ f'=>
    have hR2:FB L (f'+1) x k1 n1=R:=hR
    rw[FB] at hR2
    have HTk:=aA (RD hs.1.s hs.1.nb)
    have HP0:=aA hs.1
    have HS:=aA hs
    unfold sI at HTk
    clear hs hr hR
    by_cases hC:(cA L k1).kind=.s∧(vA (cA L k1).text (sg 43)=true∨vA (cA L k1).text (sg 45)=true)
    ·rw[if_pos hC] at hR2
     have hk:((kB (cA L k1).kind).toList==[115])=true:=by rw[hC.1,Lib.toList_data];decide
     have ht:((cA L k1).text.toList==[43])=true∨((cA L k1).text.toList==[45])=true:=by
      rcases hC.2 with h|h
      ·left;unfold vA sg at h;rw[Lib.toList_data ⟨#[43]⟩] at h;exact h
      ·right;unfold vA sg at h;rw[Lib.toList_data ⟨#[45]⟩] at h;exact h
     have HR2:=aA hR2
     have HSt:=aA (fun (W:World) (hW:Below wr.heap.size wr W)=>SD (HP0.out.below hW))
     have HRl:=aA (fun (W:World) (V:Unit→Prop) (hW:PSt L bp tb cp W (pA L k1 n1) V) (ho:((pA L k1 n1).bind fun _ k n=>FC L f' k n)≠.out)=>QC (H1.out f' (by omega)) (fun _ _ _ h=>KL h) hW ho)
     have HNo:Hid (((pA L k1 n1).bind fun _ k n=>FC L f' k n)≠.out):=by
      intro h9
      have h8:=HR2.out
      cases hst:pA L k1 n1 with
      |out=>exact DA _ _ _ hst
      |bad c a=>rw[hst] at h9;cases h9
      |ok y k n=>
       rw[hst] at h9 h8
       have h9:FC L f' k n=.out:=h9
       have h8:(FC L f' k n).bind (fun m k2 n=>FB L f' (.mk (cA L k1).text ⟨#[]⟩ 0 [x,m]) k2 n)=R:=h8
       rw[h9] at h8
       exact HN.out h8.symm
     have HR3:Hid ((((pA L k1 n1).bind fun _ k n=>FC L f' k n).bind fun m k n=>FB L f' (.mk (cA L k1).text ⟨#[]⟩ 0 [x,m]) k n)=R):=by
      show _=_
      rw[←HR2.out]
      cases pA L k1 n1<;>rfl
     clear hC hR2
     generalize kB (cA L k1).kind=K0 at *
     generalize (cA L k1).text=K1 at *
     generalize (cA L k1).pos=K2 at *
     generalize (cA L k1).code=K3 at *
     cases h43:(K1.toList==[43])
     ·have h45:(K1.toList==[45])=true:=by
       rcases ht with h|h
       ·rw[h43] at h;cases h
       ·exact h
      clear ht
      go_wp2_with (first|(go_at_call 30;refine HTk.out.mono ?_;rintro e W4 ⟨rfl,hB40⟩;have hB4:=hB40.alloc hB40.size (.cells #[.string K0,.string K1,.int .i64 K2,.int .i64 K3] 82);have hgt:wr.heap.size≤W4.heap.size:=hB40.size;have k1':(W4.alloc (.cells #[.string K0,.string K1,.int .i64 K2,.int .i64 K3] 82)).cell? ⟨W4.heap.size,1,none⟩=some (.string K1):=(by simp);have hlt4:W4.heap.size<(W4.alloc (.cells #[.string K0,.string K1,.int .i64 K2,.int .i64 K3] 82)).heap.size:=(by simp);have HQ4:=aA hB4;clear hB4 hB40)|(go_at_call 110;refine(HSt.out _ HQ4.out).mono ?_;rintro e W5 ⟨rfl,hP5,hB5⟩;have HQ5:=aA (aI hP5 hB5);clear hP5 hB5))
      refine(HRl.out _ _ HQ5.out.1 HNo.out).mono ?_
      rintro e W6 ⟨⟨t0,t1,m2,la,ln,lc,rfl,hP6⟩,hB6⟩
      have hs4:=HQ4.out.size
      have hs5:=HQ5.out.2.size
      have hs6:=hB6.size
      have hgb:W4.heap.size≠bp:=by have:=HB.out.size;omega
      have tt1:W6.cell? ⟨W4.heap.size,1,none⟩=some (.string K1):=(hB6.cell (p:=⟨W4.heap.size,1,none⟩) (by show W4.heap.size<_;omega) hgb).trans ((HQ5.out.2.cell (p:=⟨W4.heap.size,1,none⟩) hlt4 hgb).trans k1')
      have hc6:=(((hB6.block g3 (by omega) hb3).trans (HQ5.out.2.block g3 (by omega) hb3)).trans (HQ4.out.block g3 h4)).trans HC.out
      have hl6:g3<W6.heap.size:=by omega
      have htl:W4.heap.size<W6.heap.size:=by omega
      obtain⟨u0,u1,u2,u3,uf⟩:=tA hc6
      have HQ6:=aA (aI hP6 (aI hB6 hc6))
      clear hP6 hB6 hc6 k1'
      simp only[]
      go_wp2
      go_roundg f'
      case rel=>
       have hp2:=LI HQ6.out.2.2 (.string K1) (.string ⟨#[]⟩) (.int .i64 0) (.string s0) (.string s1) (.int .i64 n2) (.slice ka kn kc) (.string t0) (.string t1) (.int .i64 m2) (.slice la ln lc)
       exact VN hbp htb h3 h4 HB.out ((Below.x HQ4.out bp (nR _)).then HQ5.out.2 HQ4.out.size) HQ6.out.2.1 HQr.out HS.out.2 HQ6.out.1 hp2 (by omega) HNo.out HR3.out
      case measure=>have:=HGg.out;omega
     ·clear ht
      go_wp2_with (first|(go_at_call 30;refine HTk.out.mono ?_;rintro e W4 ⟨rfl,hB40⟩;have hB4:=hB40.alloc hB40.size (.cells #[.string K0,.string K1,.int .i64 K2,.int .i64 K3] 82);have hgt:wr.heap.size≤W4.heap.size:=hB40.size;have k1':(W4.alloc (.cells #[.string K0,.string K1,.int .i64 K2,.int .i64 K3] 82)).cell? ⟨W4.heap.size,1,none⟩=some (.string K1):=(by simp);have hlt4:W4.heap.size<(W4.alloc (.cells #[.string K0,.string K1,.int .i64 K2,.int .i64 K3] 82)).heap.size:=(by simp);have HQ4:=aA hB4;clear hB4 hB40)|(go_at_call 110;refine(HSt.out _ HQ4.out).mono ?_;rintro e W5 ⟨rfl,hP5,hB5⟩;have HQ5:=aA (aI hP5 hB5);clear hP5 hB5))
      refine(HRl.out _ _ HQ5.out.1 HNo.out).mono ?_
      rintro e W6 ⟨⟨t0,t1,m2,la,ln,lc,rfl,hP6⟩,hB6⟩
      have hs4:=HQ4.out.size
      have hs5:=HQ5.out.2.size
      have hs6:=hB6.size
      have hgb:W4.heap.size≠bp:=by have:=HB.out.size;omega
      have tt1:W6.cell? ⟨W4.heap.size,1,none⟩=some (.string K1):=(hB6.cell (p:=⟨W4.heap.size,1,none⟩) (by show W4.heap.size<_;omega) hgb).trans ((HQ5.out.2.cell (p:=⟨W4.heap.size,1,none⟩) hlt4 hgb).trans k1')
      have hc6:=(((hB6.block g3 (by omega) hb3).trans (HQ5.out.2.block g3 (by omega) hb3)).trans (HQ4.out.block g3 h4)).trans HC.out
      have hl6:g3<W6.heap.size:=by omega
      have htl:W4.heap.size<W6.heap.size:=by omega
      obtain⟨u0,u1,u2,u3,uf⟩:=tA hc6
      have HQ6:=aA (aI hP6 (aI hB6 hc6))
      clear hP6 hB6 hc6 k1'
      simp only[]
      go_wp2
      go_roundg f'
      case rel=>
       have hp2:=LI HQ6.out.2.2 (.string K1) (.string ⟨#[]⟩) (.int .i64 0) (.string s0) (.string s1) (.int .i64 n2) (.slice ka kn kc) (.string t0) (.string t1) (.int .i64 m2) (.slice la ln lc)
       exact VN hbp htb h3 h4 HB.out ((Below.x HQ4.out bp (nR _)).then HQ5.out.2 HQ4.out.size) HQ6.out.2.1 HQr.out HS.out.2 HQ6.out.1 hp2 (by omega) HNo.out HR3.out
      case measure=>have:=HGg.out;omega
    ·rw[if_neg hC] at hR2
     have hRb:R=.ok x k1 n1:=hR2.symm
     subst hRb
     clear hR2
     by_cases hkd:(cA L k1).kind=.s
     ·have hk:((kB (cA L k1).kind).toList==[115])=true:=by rw[hkd,Lib.toList_data];decide
      have ht:((cA L k1).text.toList==[43])=false∧((cA L k1).text.toList==[45])=false:=by
       have h1:¬(vA (cA L k1).text (sg 43)=true):=fun h=>hC ⟨hkd,.inl h⟩
       have h2:¬(vA (cA L k1).text (sg 45)=true):=fun h=>hC ⟨hkd,.inr h⟩
       unfold vA sg at h1 h2
       rw[Lib.toList_data ⟨#[43]⟩] at h1
       rw[Lib.toList_data ⟨#[45]⟩] at h2
       exact⟨Bool.eq_false_iff.2 h1,Bool.eq_false_iff.2 h2⟩
      obtain⟨ht1,ht2⟩:=ht
      clear hC hkd
      generalize kB (cA L k1).kind=K0 at *
      generalize (cA L k1).text=K1 at *
      generalize (cA L k1).pos=K2 at *
      generalize (cA L k1).code=K3 at *
      go_wp2_with (go_at_call 30;refine HTk.out.mono ?_;rintro e W4 ⟨rfl,hB40⟩;have hB4:=hB40.alloc hB40.size (.cells #[.string K0,.string K1,.int .i64 K2,.int .i64 K3] 82);obtain⟨q0,q1,q2,q3,qf⟩:=gA HQr.out (hB4.block _ hl4);obtain⟨m0,m1,m2,m3,mf⟩:=gA HC.out (hB4.block _ h4);have HQ4:=aA hB4;clear hB4 hB40)
      refine bodyPost_ret (v:=.agg #[.string s0,.string s1,.int .i64 n2,.slice ka kn kc]) (by simp[results,Tryz.results67,go_sem,q0,q1,q2,q3]) rfl ?_
      refine vB hbp htb (R:=.ok x k1 n1) (P:=fun b=>w.heap.size<b∧b≠g3) ?_ (fun b hb=>hb.1) (HB.out.then (Below.x HQ4.out bp (nR _)) HB.out.size)
      exact⟨HS.out.1.below HQ4.out,HS.out.2.step fun q hq hp=>⟨HQ4.out.block q hq,hp⟩⟩
     ·have hk:((kB (cA L k1).kind).toList==[115])=false:=by
       cases h2:(cA L k1).kind<;>first|exact absurd h2 hkd|(rw[Lib.toList_data];decide)
      clear hC hkd
      generalize kB (cA L k1).kind=K0 at *
      generalize (cA L k1).text=K1 at *
      generalize (cA L k1).pos=K2 at *
      generalize (cA L k1).code=K3 at *
      go_wp2_with (go_at_call 30;refine HTk.out.mono ?_;rintro e W4 ⟨rfl,hB40⟩;have hB4:=hB40.alloc hB40.size (.cells #[.string K0,.string K1,.int .i64 K2,.int .i64 K3] 82);obtain⟨q0,q1,q2,q3,qf⟩:=gA HQr.out (hB4.block _ hl4);obtain⟨m0,m1,m2,m3,mf⟩:=gA HC.out (hB4.block _ h4);have HQ4:=aA hB4;clear hB4 hB40)
      refine bodyPost_ret (v:=.agg #[.string s0,.string s1,.int .i64 n2,.slice ka kn kc]) (by simp[results,Tryz.results67,go_sem,q0,q1,q2,q3]) rfl ?_
      refine vB hbp htb (R:=.ok x k1 n1) (P:=fun b=>w.heap.size<b∧b≠g3) ?_ (fun b hb=>hb.1) (HB.out.then (Below.x HQ4.out bp (nR _)) HB.out.size)
      exact⟨HS.out.1.below HQ4.out,HS.out.2.step fun q hq hp=>⟨HQ4.out.block q hq,hp⟩⟩
end Go.Proofs.YtehbinobohjadaaGreatDoor
